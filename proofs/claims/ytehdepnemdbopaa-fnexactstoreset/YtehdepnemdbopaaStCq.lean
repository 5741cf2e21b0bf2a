
/-
  DERIVED. THE WALK OF spec.l5Copy: nodes that read as the same, each with its memory apart.
-/
import Derived.Test.YtehdepnemdbopaaRepN
import Derived.Test.YtehdepnemdbopaaVlCopyW
import Derived.Deep.Cut
import Derived.Test.YtehdepnemdbopaaVlToO
import Derived.Test.YtehdepnemdbopaaVlOk
namespace Go.Proofs.Ytehdepnemdbopaa
open Go.RowKit
set_option linter.unusedVariables false
set_option linter.unusedSimpArgs false

/-- What is known while the nodes are copied: the i-th lies from lo i up to hi i. -/
structure CopyingN (k : Nat) (l : List Nd) (w wr : World) (oa : Option Addr) (oc j : Nat) (xs : List Value) (lo hi : Nat → Nat) : Prop where
  own : wr.ownsRow w.heap.size 82 7 (.slice oa j oc) j xs
  kids : ∀ (i : Nat) (h : i < l.length), i < j → ∃ vl vn, (∀ q, q < 7 → xs[i * 7 + q]? = [Value.int .i64 l[i].id, .string l[i].type, .int .i64 l[i].cells.kind, .int .i64 l[i].cells.num, .string l[i].cells.text, vl, vn][q]?) ∧ w.heap.size ≤ lo i ∧ hi i ≤ wr.heap.size ∧
    VlI wr (lo i) (hi i) (k + 1) l[i].cells [.int .i64 l[i].cells.kind, .int .i64 l[i].cells.num, .string l[i].cells.text, vl, vn] ∧ Top wr (lo i + 3) (hi i) k l[i].cells vl vn ∧ (∀ g, (Value.slice oa j oc).ownBlock = some g → g < lo i ∨ hi i ≤ g)
  apart : ∀ i i', i < i' → i' < j → hi i ≤ lo i'
  below : Below w.heap.size w wr

theorem xs_step7 {xs news : List Value} {j i q : Nat} (hx : xs.length = j * 7) (hi : i < j) (hq : q < 7) : (xs ++ news)[i * 7 + q]? = xs[i * 7 + q]? := by
  rw [List.getElem?_append_left (by omega)]
theorem xs_new7 {xs news : List Value} {j q : Nat} (hx : xs.length = j * 7) : (xs ++ news)[j * 7 + q]? = news[q]? := by
  rw [List.getElem?_append_right (by omega)]; congr 1; omega

theorem CopyingN.far {k : Nat} {l : List Nd} {w wr : World} {oa : Option Addr} {oc j : Nat} {xs : List Value} {lo hi : Nat → Nat} (h : CopyingN k l w wr oa oc j xs lo hi) {b : Nat} (hb : b < w.heap.size) : some b ≠ (Value.slice oa j oc).ownBlock := by
  intro he
  have := (h.own.lt b he.symm).1
  omega

theorem CopyingN.step {k : Nat} {l : List Nd} {w wr w1 w2 : World} {oa : Option Addr} {oc j g cap : Nat} {xs : List Value} {lo hi : Nat → Nat} {o : Obj} {vl vn : Value} (h : CopyingN k l w wr oa oc j xs lo hi) (hj : j < l.length)
    (hb1 : Below wr.heap.size wr w1) (hI : VlI w1 wr.heap.size w1.heap.size (k + 1) l[j].cells [.int .i64 l[j].cells.kind, .int .i64 l[j].cells.num, .string l[j].cells.text, vl, vn]) (hT : Top w1 (wr.heap.size + 3) w1.heap.size k l[j].cells vl vn)
    (hown : w2.ownsRow w.heap.size 82 7 (.slice (some ⟨g, 0, none⟩) (j + 1) cap) (j + 1) (xs ++ [.int .i64 l[j].id, .string l[j].type, .int .i64 l[j].cells.kind, .int .i64 l[j].cells.num, .string l[j].cells.text, vl, vn]))
    (hg : (w1.alloc o).grownBy w2 (Value.slice oa j oc).ownBlock) (hat : (Value.slice oa j oc).ownBlock = some g ∨ g = w1.heap.size + 1) :
    ∃ lo' hi', CopyingN k l w w2 (some ⟨g, 0, none⟩) cap (j + 1) (xs ++ [.int .i64 l[j].id, .string l[j].type, .int .i64 l[j].cells.kind, .int .i64 l[j].cells.num, .string l[j].cells.text, vl, vn]) lo' hi' := by
  have hxl := h.own.1
  have hs1 := hb1.size
  have hs2 := hg.size
  have hsz := h.below.size
  simp at hs2
  have hsame : ∀ b, b < wr.heap.size → some b ≠ (Value.slice oa j oc).ownBlock → w2.heap[b]? = wr.heap[b]? := fun b h1 h3 => by
    rw [hg.block b (by simp; omega) h3, Below.heap_alloc _ _ _ (by omega), hb1.block b h1]
  have hnew : ∀ b, wr.heap.size ≤ b → b < w1.heap.size → w2.heap[b]? = w1.heap[b]? := fun b c1 c2 => by
    rw [hg.block b (by simp; omega) (fun he => by have := (h.own.lt b he.symm).2; omega), Below.heap_alloc _ _ _ (by omega)]
  have hgo : ∀ g', (Value.slice (some ⟨g, 0, none⟩) (j + 1) cap).ownBlock = some g' → g' = g := fun g' h => by simp [Value.ownBlock] at h; exact h.symm
  refine ⟨fun i => if i = j then wr.heap.size else lo i, fun i => if i = j then w1.heap.size else hi i, hown, fun i hi' hij => ?_, fun i i' h1 h2 => ?_, ?_⟩
  · rcases Nat.lt_succ_iff_lt_or_eq.1 hij with hlt | rfl
    · obtain ⟨vl', vn', b2, b3, b4, b5, b6, b7⟩ := h.kids i hi' hlt
      simp only [if_neg (Nat.ne_of_lt hlt)]
      have hsm : ∀ b, lo i ≤ b → b < hi i → w2.heap[b]? = wr.heap[b]? := fun b c1 c2 => hsame b (by omega) (fun he => by have := b7 b he.symm; omega)
      refine ⟨vl', vn', fun q hq => by rw [xs_step7 hxl hlt hq]; exact b2 q hq, b3, by omega, b5.same hsm, b6.same (fun b c1 c2 => hsm b (by omega) c2), fun g' hg' => ?_⟩
      have := hgo g' hg'
      subst this
      rcases hat with hat | hat
      · exact b7 _ hat
      · omega
    · simp only [if_true]
      refine ⟨vl, vn, fun q hq => xs_new7 hxl, hsz, by omega, hI.same hnew, hT.same (fun b c1 c2 => hnew b (by omega) c2), fun g' hg' => ?_⟩
      have := hgo g' hg'
      subst this
      rcases hat with hat | hat
      · have := (h.own.lt _ hat).2; omega
      · omega
  · rcases Nat.lt_succ_iff_lt_or_eq.1 h2 with hlt | rfl
    · rw [if_neg (by omega), if_neg (by omega)]
      exact h.apart i i' h1 hlt
    · rw [if_neg (by omega), if_pos rfl]
      obtain ⟨_, _, _, _, b4, _⟩ := h.kids i (by omega) h1
      exact b4
  · refine ⟨hg.os.trans (hb1.os.trans h.below.os), hg.tape.trans (hb1.tape.trans h.below.tape), hg.output.trans (hb1.output.trans h.below.output), by omega, fun b hb => ?_⟩
    rw [hsame b (by omega) (h.far hb), h.below.block b hb]

set_option maxHeartbeats 4000000 in
theorem l5Copy_any (k : Nat) (l : List Nd) (v : Value) (w : World) (hrow : NdRow w 0 (k + 1) l v) :
    Calls Try.prog 66 #[v] w fun e w' => ∃ oa oc xs lo hi, e = .returned (.slice oa l.length oc) ∧ CopyingN k l w w' oa oc l.length xs lo hi := by
  obtain ⟨a, cap, rfl, hw, hrest⟩ := Row.len hrow
  have hlen : (l.length : Int) ≤ 140737488351232 := by omega
  obtain ⟨i0, hi0, hz0, hz1, hz2⟩ := info_impl_Node
  have HR : Hid _ := hrest
  have HW : Hid (l.length * 104 ≤ 140737488351232) := hw
  clear hrow hrest
  go_enter Try.func66, Try.ntmps66
  go_wp2_with fail
  go_loopw [3, 4] (fun o i wr => ∃ (j : Nat) (oa : Option Addr) (oc : Nat) (xs : List Value) (lo hi : Nat → Nat), j ≤ l.length ∧ o = .slice oa j oc ∧ i = .int .i64 j ∧ Hid (CopyingN k l w wr oa oc j xs lo hi)) (fun o i _ => l.length - (intOf i).toNat)
  case atStart =>
    refine ⟨0, some ⟨w.heap.size, 0, none⟩, 0, [], fun _ => 0, fun _ => 0, Nat.zero_le _, rfl, rfl, ⟨⟨rfl, Or.inr ⟨w.heap.size, 0, #[], rfl, Nat.le_refl _, alloc_atC _ _, Nat.le_refl _, Nat.zero_le _, rfl, rfl⟩⟩, fun i _ h => absurd h (Nat.not_lt_zero _), fun _ i' _ h => absurd h (Nat.not_lt_zero _), (Below.refl _ _).alloc (Nat.le_refl _) _⟩⟩
  case round =>
    obtain ⟨j, oa, oc, xs, lo, hi, hj, rfl, rfl, HC⟩ := hrel
    by_cases hlt : j < l.length
    · obtain ⟨b, off, hab, _, hcs⟩ := HR.out (List.ne_nil_of_length_pos (by omega))
      subst hab
      obtain ⟨cs, hl7, hc, hR⟩ := hcs j hlt
      obtain ⟨p, n, p', n', rfl⟩ := hR.cells
      have hk : Keeps 0 w wr := Keeps.of_below HC.out.below (Nat.le_refl _) _
      have hbw : b < w.heap.size := cell_lt (hc 0 (by simp))
      obtain ⟨c0, c1, c2, c3, c4, c5, c6⟩ := (hc.keeps hk (Nat.zero_le _)).seven
      have hszr := HC.out.below.size
      have HCALL : Hid (Calls Try.prog 26 #[.agg #[.int .i64 l[j].cells.kind, .int .i64 l[j].cells.num, .string l[j].cells.text, .slice p l[j].cells.list.length n, .slice p' l[j].cells.names.length n']] wr.drew (fun e w1 => ∃ p1 n1 p1' n1',
          e = .returned (.agg #[.int .i64 l[j].cells.kind, .int .i64 l[j].cells.num, .string l[j].cells.text, .slice p1 l[j].cells.list.length n1, .slice p1' l[j].cells.names.length n1']) ∧
          w1.cell? ⟨b, off + j * 7, none⟩ = some (.int .i64 l[j].id) ∧ w1.cell? ⟨b, off + j * 7 + 1, none⟩ = some (.string l[j].type) ∧
          w.heap.size ≤ w1.heap.size ∧ Hid (w1.ownsRow w.heap.size 82 7 (.slice oa j oc) j xs) ∧ Hid (Below wr.heap.size wr w1) ∧
          Hid (VlI w1 wr.heap.size w1.heap.size (k + 1) l[j].cells [.int .i64 l[j].cells.kind, .int .i64 l[j].cells.num, .string l[j].cells.text, .slice p1 l[j].cells.list.length n1, .slice p1' l[j].cells.names.length n1']) ∧ Hid (Top w1 (wr.heap.size + 3) w1.heap.size k l[j].cells (.slice p1 l[j].cells.list.length n1) (.slice p1' l[j].cells.names.length n1')))) := by
        obtain ⟨_, _, hv0, _, _, hRc⟩ := NdR.keeps hk _ _ _ hR
        simp only [List.cons.injEq, true_and, and_true] at hv0
        obtain ⟨rfl, rfl⟩ := hv0
        refine (copyT_all k l[j].cells _ _ wr.drew (VlR.keeps (Keeps.refl 0 wr).drew _ _ _ hRc)).mono ?_
        rintro e w1 ⟨vl', vn', rfl, hI, hb1, hT⟩
        obtain ⟨p1, n1, p1', n1', rfl, rfl⟩ := hI.slices
        have hb1' : Below wr.heap.size wr w1 := ((Below.refl _ wr).drew).trans hb1
        refine ⟨p1, n1, p1', n1', rfl, cell_on hb1' c0, cell_on hb1' c1, Nat.le_trans hszr hb1'.size, ?_, hb1', hI, hT⟩
        have hrow : wr.grownBy w1 none := ⟨hb1'.os, hb1'.tape, hb1'.output, hb1'.size, fun q hq _ => hb1'.block q hq⟩
        exact HC.out.own.kept (row := none) hrow (by cases h : (Value.slice oa j oc).ownBlock <;> simp)
      clear hc hR hcs hk HR hl7
      go_wp2_with fail
      go_region_law (first
          | (refine step_append_lies _ (by rfl) _ _ _ (by rfl) w.heap.size 82 i0 _ 7 104 Try.underlying43 hi0 hz0 hz1 hz2 rfl (by omega) (.slice oa j oc) j xs (by rfl) (HOWN.out.alloc _) ⟨w1.heap.size, 0, none⟩ 1 1 [.int .i64 l[j].id, .string l[j].type, .int .i64 l[j].cells.kind, .int .i64 l[j].cells.num, .string l[j].cells.text, .slice p1 l[j].cells.list.length n1, .slice p1' l[j].cells.names.length n1'] (by rfl) (by rfl) (World.news_of_block (cs := #[.int .i64 l[j].id, .string l[j].type, .int .i64 l[j].cells.kind, .int .i64 l[j].cells.num, .string l[j].cells.text, .slice p1 l[j].cells.list.length n1, .slice p1' l[j].cells.names.length n1']) (t := 82) (fr := (0, 0)) (heap_alloc_new w1 _)) (by simp [Value.oneCell']) (by omega) (by unfold maxLen; have := HW.out; omega) (by have := HW.out; omega) (by simp; omega) (w1.heap.size + 1) (by simp) ?_; intro g cap w2 hown2 hgrow hat hlt2)
          | (go_simp; go_at_call 26; refine (Hid.out HCALL).mono ?_; rintro e w1 ⟨p1, n1, p1', n1', rfl, d0, d1, hsz1, HOWN, HB1, HI, HT⟩))
      all_goals
        obtain ⟨lo', hi', hC'⟩ := HC.out.step hlt HB1.out HI.out HT.out hown2 hgrow hat
        have HC' : Hid (CopyingN k l w w2 (some ⟨g, 0, none⟩) cap (j + 1) _ lo' hi') := hC'
        clear hC' HC hgrow hown2 hat HB1 HI HT HOWN c0 c1 c2 c3 c4 c5 c6 d0 d1
        go_wp2_with fail
        exact ⟨⟨j + 1, some ⟨g, 0, none⟩, cap, _, lo', hi', by omega, rfl, by go_num, HC'⟩, by simp [intOf]; omega⟩
    · obtain rfl : j = l.length := by omega
      go_wp2_with fail
      go_ret
      exact ⟨oa, oc, xs, lo, hi, rfl, HC.out⟩

end Go.Proofs.Ytehdepnemdbopaa

namespace Go.Proofs.Ytehdepnemdbopaa
open Go.RowKit
set_option linter.unusedVariables false
set_option linter.unusedSimpArgs false

theorem Row.of_owns {W : World} {B base n wide : Nat} {e : TypeId} {α : Type} {R : α → List Value → Prop} {l : List α} {v : Value} {xs : List Value} (hown : W.ownsRow base e n v l.length xs) (hB : B ≤ base) (hw : l.length * wide ≤ 140737488351232)
    (kids : ∀ (i : Nat) (h : i < l.length), ∃ cs, cs.length = n ∧ (∀ q, q < n → xs[i * n + q]? = cs[q]?) ∧ R l[i] cs) : Row W B n wide R l v := by
  rcases hown.2 with ⟨rfl, h2⟩ | ⟨g, cap, cur, rfl, h2, h3, h4, h5, h6, h7⟩
  · exact Or.inl ⟨rfl, List.eq_nil_of_length_eq_zero h2⟩
  · refine Or.inr ⟨⟨g, 0, none⟩, cap, rfl, h4, h5, hw, fun i hi => ⟨by show B ≤ g; omega, rfl, ?_⟩⟩
    obtain ⟨cs, b1, b2, b3⟩ := kids i hi
    refine ⟨cs, b1, fun q hq => ?_, b3⟩
    show W.cell? ⟨g, 0 + i * n + q, none⟩ = _
    rw [b1] at hq
    have hO : Owns W g cur e := h3
    have hin : i * n + q < l.length * n := Nat.lt_of_lt_of_le (by rw [Nat.succ_mul]; omega) (Nat.mul_le_mul_right n hi)
    rw [hO.cell, Nat.zero_add, ← b2 q hq, ← h7, List.getElem?_take, if_pos hin, Array.getElem?_toList]

/-- One of a row is overwritten. -/
theorem ownsRow_put {W : World} {base g n cap p size : Nat} {e : TypeId} {xs cs : List Value} (h : W.ownsRow base e size (.slice (some ⟨g, 0, none⟩) n cap) n xs) (hp : p < n) (hcs : cs.length = size) :
    ∃ xs', (W.setCells g (p * size) cs).ownsRow base e size (.slice (some ⟨g, 0, none⟩) n cap) n xs' ∧ (∀ i, i < n → i ≠ p → ∀ q, q < size → xs'[i * size + q]? = xs[i * size + q]?) ∧ (∀ q, q < size → xs'[p * size + q]? = cs[q]?) := by
  obtain ⟨h1, h2⟩ := h
  rcases h2 with ⟨h2, _⟩ | ⟨g', cap', cur, h2, h3, h4, h5, h6, h7, h8⟩
  · simp at h2
  · simp only [Value.slice.injEq, Option.some.injEq, Addr.mk.injEq, and_true, true_and] at h2
    obtain ⟨rfl, rfl⟩ := h2
    have hO : Owns W g cur e := h4
    have hcn : n * size ≤ cap * size := Nat.mul_le_mul_right _ h5
    have hpn : p * size + size ≤ n * size := by rw [← Nat.succ_mul]; exact Nat.mul_le_mul_right _ hp
    have hfit : p * size + cs.length ≤ cur.size := by rw [h7, hcs]; omega
    refine ⟨(putAt cur (p * size) cs).toList.take (n * size), ⟨by rw [List.length_take, Array.length_toList, putAt_size, h7]; omega, Or.inr ⟨g, cap, putAt cur (p * size) cs, rfl, h3, hO.setCells cs _, h5, h6, by rw [putAt_size, h7], rfl⟩⟩, fun i hi hne q hq => ?_, fun q hq => ?_⟩
    · have hin : i * size + size ≤ n * size := by rw [← Nat.succ_mul]; exact Nat.mul_le_mul_right _ hi
      have hout : i * size + q < p * size ∨ p * size + cs.length ≤ i * size + q := by
        rcases Nat.lt_or_gt_of_ne hne with h | h
        · left
          have : i * size + size ≤ p * size := by rw [← Nat.succ_mul]; exact Nat.mul_le_mul_right _ h
          omega
        · right
          have : p * size + size ≤ i * size := by rw [← Nat.succ_mul]; exact Nat.mul_le_mul_right _ h
          omega
      rw [List.getElem?_take, if_pos (by omega), Array.getElem?_toList, putAt_out cs _ _ _ hout, ← h8, List.getElem?_take, if_pos (by omega), Array.getElem?_toList]
    · rw [List.getElem?_take, if_pos (by omega), Array.getElem?_toList, putAt_in cs _ _ q (by omega) hfit]

theorem VlR.of_rows {W : World} {B base base' k : Nat} {t : Vl} {vl vn : Value} {xs : List Value} (hk : I64 t.kind) (hn : I64 t.num) (ht : t.text.size ≤ 140737488351232) (hw : t.list.length * 80 ≤ 140737488351232) (hw' : t.names.length * 16 ≤ 140737488351232) (hns : ∀ (i : Nat) (h : i < t.names.length), t.names[i].size ≤ 140737488351232)
    (hl : W.ownsRow base 29 5 vl t.list.length xs) (hB : B ≤ base) (kids : ∀ (i : Nat) (h : i < t.list.length), ∃ cs, cs.length = 5 ∧ (∀ q, q < 5 → xs[i * 5 + q]? = cs[q]?) ∧ VlR W B k t.list[i] cs)
    (hnm : W.ownsRow base' 9 1 vn t.names.length (t.names.map Value.string)) (hB' : B ≤ base') : VlR W B (k + 1) t [.int .i64 t.kind, .int .i64 t.num, .string t.text, vl, vn] := by
  refine ⟨vl, vn, rfl, hk, hn, ht, Row.of_owns hl hB hw kids, Row.of_owns hnm hB' hw' (fun i hi => ⟨[.string t.names[i]], rfl, fun q hq => ?_, rfl, hns i hi⟩)⟩
  obtain rfl : q = 0 := by omega
  simp [hi]

theorem Top.read {W : World} {B lo hi k : Nat} {t : Vl} {vl vn : Value} (h : Top W lo hi k t vl vn) (hB : B ≤ lo) (hk : I64 t.kind) (hn : I64 t.num) (ht : t.text.size ≤ 140737488351232) (hw : t.list.length * 80 ≤ 140737488351232) (hw' : t.names.length * 16 ≤ 140737488351232) (hns : ∀ (i : Nat) (h : i < t.names.length), t.names[i].size ≤ 140737488351232) :
    VlR W B (k + 1) t [.int .i64 t.kind, .int .i64 t.num, .string t.text, vl, vn] := by
  obtain ⟨mid, xs, h1, h2, h3, h4, h5, h6, h7⟩ := h
  refine VlR.of_rows hk hn ht hw hw' hns h3 hB (fun i hi => ?_) h6 (by omega)
  obtain ⟨cs, a, b, c1, c2, c3, c4, c5, c6⟩ := h5 i hi
  exact ⟨cs, c1, c2, VlR.base (by omega) _ _ _ c5.read⟩

/-- One of the list is overwritten. -/
theorem Top.put {W : World} {B lo hi k g n c p : Nat} {t v' : Vl} {vn : Value} {cs : List Value} (h : Top W lo hi k t (.slice (some ⟨g, 0, none⟩) n c) vn) (hB : B ≤ lo) (hk : I64 t.kind) (hn : I64 t.num) (ht : t.text.size ≤ 140737488351232) (hw : t.list.length * 80 ≤ 140737488351232) (hw' : t.names.length * 16 ≤ 140737488351232) (hns : ∀ (i : Nat) (h : i < t.names.length), t.names[i].size ≤ 140737488351232)
    (hp : p < t.list.length) (hcs : cs.length = 5) (hv : VlR (W.setCells g (p * 5) cs) B k v' cs) :
    VlR (W.setCells g (p * 5) cs) B (k + 1) { t with list := t.list.set p v' } [.int .i64 t.kind, .int .i64 t.num, .string t.text, .slice (some ⟨g, 0, none⟩) n c, vn] := by
  obtain ⟨mid, xs, h1, h2, h3, h4, h5, h6, h7⟩ := h
  have hnl : n = t.list.length := by
    rcases h3.2 with ⟨h, _⟩ | ⟨g', cap', cur, h, _⟩ <;> simp at h
    exact h.2.1
  subst hnl
  obtain ⟨xs', d1, d2, d3⟩ := ownsRow_put h3 hp hcs
  have hgm := h4 g rfl
  refine VlR.of_rows (t := { t with list := t.list.set p v' }) (xs := xs') hk hn ht (by simpa using hw) hw' hns (by simpa using d1) hB (fun i hi => ?_) (ownsRow_in h6 (fun g' hg' hb => setCells_other _ _ _ _ (by omega))) (by omega)
  simp only [List.length_set] at hi
  by_cases hip : i = p
  · subst hip
    exact ⟨cs, hcs, d3, by simpa using hv⟩
  · obtain ⟨cs', a, b, c1, c2, c3, c4, c5, c6⟩ := h5 i hi
    refine ⟨cs', c1, fun q hq => (d2 i hi hip q hq).trans (c2 q hq), ?_⟩
    have hne : p ≠ i := fun h => hip h.symm
    simp only [List.getElem_set_ne hne]
    have hg := c6 g rfl
    exact VlR.base (by omega) _ _ _ (c5.same (fun y y1 y2 => setCells_other _ _ _ _ (by omega))).read

theorem CopyingN.row {k : Nat} {l : List Nd} {w wr W : World} {oa : Option Addr} {oc : Nat} {xs : List Value} {lo hi : Nat → Nat} (h : CopyingN k l w wr oa oc l.length xs lo hi) (hw : l.length * 104 ≤ 140737488351232) (hl : ∀ (i : Nat) (h : i < l.length), I64 l[i].id ∧ l[i].type.size ≤ 140737488351232)
    (hW : ∀ b, w.heap.size ≤ b → b < wr.heap.size → W.heap[b]? = wr.heap[b]?) : NdRow W w.heap.size (k + 1) l (.slice oa l.length oc) := by
  refine Row.of_owns (ownsRow_in h.own (fun g hg hb => hW g hb (h.own.lt g hg).2)) (Nat.le_refl _) hw (fun i hi' => ?_)
  obtain ⟨vl, vn, b2, b3, b4, b5, b6, b7⟩ := h.kids i hi' hi'
  exact ⟨_, rfl, b2, vl, vn, rfl, (hl i hi').1, (hl i hi').2, VlR.base b3 _ _ _ (b5.same (fun y y1 y2 => hW y (by omega) (by omega))).read⟩

theorem CopyingN.on {k : Nat} {l : List Nd} {w wr W : World} {oa : Option Addr} {oc j : Nat} {xs : List Value} {lo hi : Nat → Nat} (h : CopyingN k l w wr oa oc j xs lo hi) (hb : Below wr.heap.size wr W) : CopyingN k l w W oa oc j xs lo hi := by
  have hz := hb.size
  refine ⟨ownsRow_in h.own (fun g hg _ => hb.block g (h.own.lt g hg).2), fun i h1 h2 => ?_, h.apart, h.below.trans (hb.mono h.below.size)⟩
  obtain ⟨vl, vn, b2, b3, b4, b5, b6, b7⟩ := h.kids i h1 h2
  exact ⟨vl, vn, b2, b3, by omega, b5.same (fun y y1 y2 => hb.block y (by omega)), b6.same (fun y y1 y2 => hb.block y (by omega)), b7⟩

/-- One of the copied nodes: where it lies, and what it leads to. -/
theorem CopyingN.node {k : Nat} {l : List Nd} {w wr : World} {oa : Option Addr} {oc : Nat} {xs : List Value} {lo hi : Nat → Nat} (h : CopyingN k l w wr oa oc l.length xs lo hi) (i : Nat) (hil : i < l.length) :
    ∃ g p n p' n', oa = some ⟨g, 0, none⟩ ∧ w.heap.size ≤ g ∧ g < wr.heap.size ∧ CellsAt wr g (i * 7) [.int .i64 l[i].id, .string l[i].type, .int .i64 l[i].cells.kind, .int .i64 l[i].cells.num, .string l[i].cells.text, .slice p l[i].cells.list.length n, .slice p' l[i].cells.names.length n'] ∧ (∀ o, wr.frozen? ⟨g, o, none⟩ = false) ∧
      w.heap.size ≤ lo i ∧ hi i ≤ wr.heap.size ∧ (g < lo i ∨ hi i ≤ g) ∧ VlI wr (lo i) (hi i) (k + 1) l[i].cells [.int .i64 l[i].cells.kind, .int .i64 l[i].cells.num, .string l[i].cells.text, .slice p l[i].cells.list.length n, .slice p' l[i].cells.names.length n'] ∧
      Top wr (lo i + 3) (hi i) k l[i].cells (.slice p l[i].cells.list.length n) (.slice p' l[i].cells.names.length n') ∧
      (∀ q, q < 7 → xs[i * 7 + q]? = [Value.int .i64 l[i].id, .string l[i].type, .int .i64 l[i].cells.kind, .int .i64 l[i].cells.num, .string l[i].cells.text, .slice p l[i].cells.list.length n, .slice p' l[i].cells.names.length n'][q]?) := by
  obtain ⟨vl, vn, b2, b3, b4, b5, b6, b7⟩ := h.kids i hil hil
  obtain ⟨p, n, p', n', rfl, rfl⟩ := b5.slices
  rcases h.own.2 with ⟨_, h2⟩ | ⟨g, cap, cur, h1, h2, h3, h4, h5, h6, h7⟩
  · omega
  · simp only [Value.slice.injEq, true_and] at h1
    obtain ⟨rfl, rfl⟩ := h1
    have hO : Owns wr g cur 82 := h3
    refine ⟨g, p, n, p', n', rfl, h2, hO.lt, fun q hq => ?_, fun o => hO.frozen o, b3, b4, b7 g rfl, b5, b6, b2⟩
    simp only [List.length_cons, List.length_nil] at hq
    rw [hO.cell, ← b2 q (by omega), ← h7, List.getElem?_take, if_pos (by omega), Array.getElem?_toList]

/-- One of the list of a copied node is overwritten. -/
theorem CopyingN.put {k : Nat} {l : List Nd} {w wr : World} {g oc : Nat} {xs : List Value} {lo hi : Nat → Nat} (h : CopyingN k l w wr (some ⟨g, 0, none⟩) oc l.length xs lo hi) {i p gl n c : Nat} {B : Nat} (hB : B ≤ w.heap.size) (hil : i < l.length) {vn : Value} {v' : Vl} {cs : List Value}
    (hx : ∀ q, q < 7 → xs[i * 7 + q]? = [Value.int .i64 l[i].id, .string l[i].type, .int .i64 l[i].cells.kind, .int .i64 l[i].cells.num, .string l[i].cells.text, .slice (some ⟨gl, 0, none⟩) n c, vn][q]?) (hT : Top wr (lo i + 3) (hi i) k l[i].cells (.slice (some ⟨gl, 0, none⟩) n c) vn)
    (hw : l.length * 104 ≤ 140737488351232) (hl : ∀ (i : Nat) (h : i < l.length), I64 l[i].id ∧ l[i].type.size ≤ 140737488351232) (hk : I64 l[i].cells.kind) (hn : I64 l[i].cells.num) (ht : l[i].cells.text.size ≤ 140737488351232) (hw1 : l[i].cells.list.length * 80 ≤ 140737488351232) (hw2 : l[i].cells.names.length * 16 ≤ 140737488351232) (hns : ∀ (m : Nat) (h : m < l[i].cells.names.length), l[i].cells.names[m].size ≤ 140737488351232)
    (hp : p < l[i].cells.list.length) (hcs : cs.length = 5) (hv : VlR (wr.setCells gl (p * 5) cs) B k v' cs) :
    NdRow (wr.setCells gl (p * 5) cs) B (k + 1) (l.set i { l[i] with cells := { l[i].cells with list := l[i].cells.list.set p v' } }) (.slice (some ⟨g, 0, none⟩) l.length oc) := by
  obtain ⟨vl0, vn0, _, b3, b4, _, _, b7⟩ := h.kids i hil hil
  have hgi := b7 g rfl
  obtain ⟨hg1, hg2⟩ : lo i + 3 ≤ gl ∧ gl < hi i := by
    obtain ⟨mid, _, h1, h2, h3, h4, _⟩ := hT
    have := h4 gl rfl
    exact ⟨(h3.lt gl rfl).1, by omega⟩
  have hgg : g ≠ gl := by omega
  refine Row.of_owns (l := l.set i { l[i] with cells := { l[i].cells with list := l[i].cells.list.set p v' } }) (base := w.heap.size) (e := 82) (xs := xs) (by rw [List.length_set]; exact ownsRow_in h.own (fun g' hg' hb => by simp [Value.ownBlock] at hg'; subst hg'; exact setCells_other _ _ _ _ hgg)) hB (by rw [List.length_set]; exact hw) (fun m hm => ?_)
  rw [List.length_set] at hm
  by_cases hmi : m = i
  · subst hmi
    simp only [List.getElem_set_self]
    exact ⟨_, rfl, hx, _, _, rfl, (hl m hil).1, (hl m hil).2, Top.put hT (by omega) hk hn ht hw1 hw2 hns hp hcs hv⟩
  · simp only [List.getElem_set_ne (fun h => hmi h.symm)]
    obtain ⟨vl, vn', c2, c3, c4, c5, c6, c7⟩ := h.kids m hm hm
    have hoff : gl < lo m ∨ hi m ≤ gl := by
      rcases Nat.lt_or_gt_of_ne hmi with h1 | h1
      · have := h.apart m i h1 hil; omega
      · have := h.apart i m h1 hm; omega
    exact ⟨_, rfl, c2, vl, vn', rfl, (hl m hm).1, (hl m hm).2, VlR.base (by omega) _ _ _ (c5.same (fun y y1 y2 => setCells_other _ _ _ _ (by omega))).read⟩

theorem Top.slots {W : World} {lo hi k n c j : Nat} {oa : Option Addr} {t : Vl} {vn : Value} (h : Top W lo hi k t (.slice oa n c) vn) (hj : j < t.list.length) :
    ∃ gl, oa = some ⟨gl, 0, none⟩ ∧ lo ≤ gl ∧ gl < hi ∧ (∀ o, W.frozen? ⟨gl, o, none⟩ = false) ∧ ∀ q, q < 5 → ∃ u, W.cell? ⟨gl, j * 5 + q, none⟩ = some u := by
  obtain ⟨mid, xs, h1, h2, h3, h4, _⟩ := h
  have h34 := h4
  rcases h3.2 with ⟨_, d⟩ | ⟨gl, cap, cur, d1, d2, d3, d4, d5, d6, d7⟩
  · omega
  · simp only [Value.slice.injEq] at d1
    obtain ⟨rfl, _, _⟩ := d1
    have hO : Owns W gl cur 29 := d3
    have := h34 gl rfl
    refine ⟨gl, rfl, d2, by omega, fun o => hO.frozen o, fun q hq => ?_⟩
    rw [hO.cell]
    exact ⟨cur[j * 5 + q]'(by omega), Array.getElem?_eq_getElem _⟩

/-! ### What a change makes of nodes -/
/-- A tree with a value set: the first of that name turned, or one more, last. -/
def setV (t : Vl) (s : ByteArray) (v : Vl) : Option Vl :=
  match t.names.findIdx? (fun x => x.toList == s.toList) with
  | some p => some { t with list := t.list.set p v }
  | none => if 12 ≤ t.names.length then none else some { t with list := t.list ++ [v], names := t.names ++ [s] }
def setAt (l : List Nd) (i : Nat) (h : i < l.length) (s : ByteArray) (v : Vl) : List Nd × Bool :=
  if nameB s.data.toList && okB false 3 v then
    match setV l[i].cells s v with
    | none => (l, false)
    | some c => (l.set i { l[i] with cells := c }, true)
  else (l, false)
def SetI (l : List Nd) (id : Int) (s : ByteArray) (v : Vl) (p : List Nd × Bool) : Prop :=
  (∃ (i : Nat) (h : i < l.length), l[i].id = id ∧ p = setAt l i h s v) ∨ ((∀ (j : Nat) (h : j < l.length), l[j].id ≠ id) ∧ p = (l, false))

theorem setV_hit {t : Vl} {s : ByteArray} {v : Vl} {p : Nat} (hp : p < t.names.length) (he : (t.names[p].toList == s.toList) = true) (hno : ∀ (m : Nat) (h : m < t.names.length), m < p → (t.names[m].toList == s.toList) = false) : setV t s v = some { t with list := t.list.set p v } := by
  have h : t.names.findIdx? (fun x => x.toList == s.toList) = some p := by
    rw [List.findIdx?_eq_some_iff_getElem]
    exact ⟨hp, he, fun j hj => by rw [hno j (by omega) hj]; exact Bool.false_ne_true⟩
  unfold setV
  rw [h]
theorem setV_miss {t : Vl} {s : ByteArray} {v : Vl} (hno : ∀ (m : Nat) (h : m < t.names.length), (t.names[m].toList == s.toList) = false) : setV t s v = if 12 ≤ t.names.length then none else some { t with list := t.list ++ [v], names := t.names ++ [s] } := by
  have h : t.names.findIdx? (fun x => x.toList == s.toList) = none := by
    rw [List.findIdx?_eq_none_iff]
    intro x hx
    obtain ⟨m, hm, rfl⟩ := List.getElem_of_mem hx
    exact hno m hm
  unfold setV
  rw [h]

end Go.Proofs.Ytehdepnemdbopaa
