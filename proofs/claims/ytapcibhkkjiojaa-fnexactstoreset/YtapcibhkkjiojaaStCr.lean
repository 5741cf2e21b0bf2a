
/-
  DERIVED. WHAT COPIED NODES READ AS, as they are and behind a change.
-/
import Derived.Test.YtapcibhkkjiojaaStCp
import Derived.Test.YtapcibhkkjiojaaVlToO
import Derived.Test.YtapcibhkkjiojaaVlOk
import Derived.Test.YtapcibhkkjiojaaStB
namespace Go.Proofs.Ytapcibhkkjiojaa
open Go.RowKit
set_option linter.unusedVariables false
set_option linter.unusedSimpArgs false

theorem Row.of_owns {W : World} {B base n wide : Nat} {e : TypeId} {α : Type} {R : α → List Value → Prop} {l : List α} {v : Value} {xs : List Value} (hown : W.ownsRow base e n v l.length xs) (hB : B ≤ base) (hw : l.length * wide ≤ 140737488351232)
    (kids : ∀ (i : Nat) (h : i < l.length), ∃ cs, cs.length = n ∧ (∀ q, q < n → xs[i * n + q]? = cs[q]?) ∧ R l[i] cs) : Row W B n wide R l v := by
  rcases hown.2 with ⟨rfl, h2⟩ | ⟨g, cap, cur, rfl, h2, h3, h4, h5, h6, h7⟩
  · exact Or.inl ⟨rfl, List.eq_nil_of_length_eq_zero h2⟩
  · refine Or.inr ⟨⟨g, 0, none⟩, cap, rfl, h4, h5, hw, fun i hi => ⟨by show B ≤ g; omega, rfl, ?_⟩⟩
    obtain ⟨cs, b1, b2, b3⟩ := kids i hi
    refine ⟨cs, b1, fun q hq => ?_, b3⟩
    show W.cell? ⟨g, 0 + i * n + q, none⟩ = _
    rw [b1] at hq
    have hO : Owns W g cur e := h3
    have hin : i * n + q < l.length * n := Nat.lt_of_lt_of_le (by rw [Nat.succ_mul]; omega) (Nat.mul_le_mul_right n hi)
    rw [hO.cell, Nat.zero_add, ← b2 q hq, ← h7, List.getElem?_take, if_pos hin, Array.getElem?_toList]

/-- One of a row is overwritten. -/
theorem ownsRow_put {W : World} {base g n cap p size : Nat} {e : TypeId} {xs cs : List Value} (h : W.ownsRow base e size (.slice (some ⟨g, 0, none⟩) n cap) n xs) (hp : p < n) (hcs : cs.length = size) :
    ∃ xs', (W.setCells g (p * size) cs).ownsRow base e size (.slice (some ⟨g, 0, none⟩) n cap) n xs' ∧ (∀ i, i < n → i ≠ p → ∀ q, q < size → xs'[i * size + q]? = xs[i * size + q]?) ∧ (∀ q, q < size → xs'[p * size + q]? = cs[q]?) := by
  obtain ⟨h1, h2⟩ := h
  rcases h2 with ⟨h2, _⟩ | ⟨g', cap', cur, h2, h3, h4, h5, h6, h7, h8⟩
  · simp at h2
  · simp only [Value.slice.injEq, Option.some.injEq, Addr.mk.injEq, and_true, true_and] at h2
    obtain ⟨rfl, rfl⟩ := h2
    have hO : Owns W g cur e := h4
    have hcn : n * size ≤ cap * size := Nat.mul_le_mul_right _ h5
    have hpn : p * size + size ≤ n * size := by rw [← Nat.succ_mul]; exact Nat.mul_le_mul_right _ hp
    have hfit : p * size + cs.length ≤ cur.size := by rw [h7, hcs]; omega
    refine ⟨(putAt cur (p * size) cs).toList.take (n * size), ⟨by rw [List.length_take, Array.length_toList, putAt_size, h7]; omega, Or.inr ⟨g, cap, putAt cur (p * size) cs, rfl, h3, hO.setCells cs _, h5, h6, by rw [putAt_size, h7], rfl⟩⟩, fun i hi hne q hq => ?_, fun q hq => ?_⟩
    · have hin : i * size + size ≤ n * size := by rw [← Nat.succ_mul]; exact Nat.mul_le_mul_right _ hi
      have hout : i * size + q < p * size ∨ p * size + cs.length ≤ i * size + q := by
        rcases Nat.lt_or_gt_of_ne hne with h | h
        · left
          have : i * size + size ≤ p * size := by rw [← Nat.succ_mul]; exact Nat.mul_le_mul_right _ h
          omega
        · right
          have : p * size + size ≤ i * size := by rw [← Nat.succ_mul]; exact Nat.mul_le_mul_right _ h
          omega
      rw [List.getElem?_take, if_pos (by omega), Array.getElem?_toList, putAt_out cs _ _ _ hout, ← h8, List.getElem?_take, if_pos (by omega), Array.getElem?_toList]
    · rw [List.getElem?_take, if_pos (by omega), Array.getElem?_toList, putAt_in cs _ _ q (by omega) hfit]

theorem VlR.of_rows {W : World} {B base base' k : Nat} {t : Vl} {vl vn : Value} {xs : List Value} (hk : I64 t.kind) (hn : I64 t.num) (ht : t.text.size ≤ 140737488351232) (hw : t.list.length * 80 ≤ 140737488351232) (hw' : t.names.length * 16 ≤ 140737488351232) (hns : ∀ (i : Nat) (h : i < t.names.length), t.names[i].size ≤ 140737488351232)
    (hl : W.ownsRow base 35 5 vl t.list.length xs) (hB : B ≤ base) (kids : ∀ (i : Nat) (h : i < t.list.length), ∃ cs, cs.length = 5 ∧ (∀ q, q < 5 → xs[i * 5 + q]? = cs[q]?) ∧ VlR W B k t.list[i] cs)
    (hnm : W.ownsRow base' 9 1 vn t.names.length (t.names.map Value.string)) (hB' : B ≤ base') : VlR W B (k + 1) t [.int .i64 t.kind, .int .i64 t.num, .string t.text, vl, vn] := by
  refine ⟨vl, vn, rfl, hk, hn, ht, Row.of_owns hl hB hw kids, Row.of_owns hnm hB' hw' (fun i hi => ⟨[.string t.names[i]], rfl, fun q hq => ?_, rfl, hns i hi⟩)⟩
  obtain rfl : q = 0 := by omega
  simp [hi]

theorem Top.read {W : World} {B lo hi k : Nat} {t : Vl} {vl vn : Value} (h : Top W lo hi k t vl vn) (hB : B ≤ lo) (hk : I64 t.kind) (hn : I64 t.num) (ht : t.text.size ≤ 140737488351232) (hw : t.list.length * 80 ≤ 140737488351232) (hw' : t.names.length * 16 ≤ 140737488351232) (hns : ∀ (i : Nat) (h : i < t.names.length), t.names[i].size ≤ 140737488351232) :
    VlR W B (k + 1) t [.int .i64 t.kind, .int .i64 t.num, .string t.text, vl, vn] := by
  obtain ⟨mid, xs, h1, h2, h3, h4, h5, h6, h7⟩ := h
  refine VlR.of_rows hk hn ht hw hw' hns h3 hB (fun i hi => ?_) h6 (by omega)
  obtain ⟨cs, a, b, c1, c2, c3, c4, c5, c6⟩ := h5 i hi
  exact ⟨cs, c1, c2, VlR.base (by omega) _ _ _ c5.read⟩

/-- One of the list is overwritten. -/
theorem Top.put {W : World} {B lo hi k g n c p : Nat} {t v' : Vl} {vn : Value} {cs : List Value} (h : Top W lo hi k t (.slice (some ⟨g, 0, none⟩) n c) vn) (hB : B ≤ lo) (hk : I64 t.kind) (hn : I64 t.num) (ht : t.text.size ≤ 140737488351232) (hw : t.list.length * 80 ≤ 140737488351232) (hw' : t.names.length * 16 ≤ 140737488351232) (hns : ∀ (i : Nat) (h : i < t.names.length), t.names[i].size ≤ 140737488351232)
    (hp : p < t.list.length) (hcs : cs.length = 5) (hv : VlR (W.setCells g (p * 5) cs) B k v' cs) :
    VlR (W.setCells g (p * 5) cs) B (k + 1) { t with list := t.list.set p v' } [.int .i64 t.kind, .int .i64 t.num, .string t.text, .slice (some ⟨g, 0, none⟩) n c, vn] := by
  obtain ⟨mid, xs, h1, h2, h3, h4, h5, h6, h7⟩ := h
  have hnl : n = t.list.length := by
    rcases h3.2 with ⟨h, _⟩ | ⟨g', cap', cur, h, _⟩ <;> simp at h
    exact h.2.1
  subst hnl
  obtain ⟨xs', d1, d2, d3⟩ := ownsRow_put h3 hp hcs
  have hgm := h4 g rfl
  refine VlR.of_rows (t := { t with list := t.list.set p v' }) (xs := xs') hk hn ht (by simpa using hw) hw' hns (by simpa using d1) hB (fun i hi => ?_) (ownsRow_in h6 (fun g' hg' hb => setCells_other _ _ _ _ (by omega))) (by omega)
  simp only [List.length_set] at hi
  by_cases hip : i = p
  · subst hip
    exact ⟨cs, hcs, d3, by simpa using hv⟩
  · obtain ⟨cs', a, b, c1, c2, c3, c4, c5, c6⟩ := h5 i hi
    refine ⟨cs', c1, fun q hq => (d2 i hi hip q hq).trans (c2 q hq), ?_⟩
    have hne : p ≠ i := fun h => hip h.symm
    simp only [List.getElem_set_ne hne]
    have hg := c6 g rfl
    exact VlR.base (by omega) _ _ _ (c5.same (fun y y1 y2 => setCells_other _ _ _ _ (by omega))).read

theorem CopyingN.row {k : Nat} {l : List Nd} {w wr W : World} {oa : Option Addr} {oc : Nat} {xs : List Value} {lo hi : Nat → Nat} (h : CopyingN k l w wr oa oc l.length xs lo hi) (hw : l.length * 104 ≤ 140737488351232) (hl : ∀ (i : Nat) (h : i < l.length), I64 l[i].id ∧ l[i].type.size ≤ 140737488351232)
    (hW : ∀ b, w.heap.size ≤ b → b < wr.heap.size → W.heap[b]? = wr.heap[b]?) : NdRow W w.heap.size (k + 1) l (.slice oa l.length oc) := by
  refine Row.of_owns (ownsRow_in h.own (fun g hg hb => hW g hb (h.own.lt g hg).2)) (Nat.le_refl _) hw (fun i hi' => ?_)
  obtain ⟨vl, vn, b2, b3, b4, b5, b6, b7⟩ := h.kids i hi' hi'
  exact ⟨_, rfl, b2, vl, vn, rfl, (hl i hi').1, (hl i hi').2, VlR.base b3 _ _ _ (b5.same (fun y y1 y2 => hW y (by omega) (by omega))).read⟩

theorem CopyingN.on {k : Nat} {l : List Nd} {w wr W : World} {oa : Option Addr} {oc j : Nat} {xs : List Value} {lo hi : Nat → Nat} (h : CopyingN k l w wr oa oc j xs lo hi) (hb : Below wr.heap.size wr W) : CopyingN k l w W oa oc j xs lo hi := by
  have hz := hb.size
  refine ⟨ownsRow_in h.own (fun g hg _ => hb.block g (h.own.lt g hg).2), fun i h1 h2 => ?_, h.apart, h.below.trans (hb.mono h.below.size)⟩
  obtain ⟨vl, vn, b2, b3, b4, b5, b6, b7⟩ := h.kids i h1 h2
  exact ⟨vl, vn, b2, b3, by omega, b5.same (fun y y1 y2 => hb.block y (by omega)), b6.same (fun y y1 y2 => hb.block y (by omega)), b7⟩

/-- One of the copied nodes: where it lies, and what it leads to. -/
theorem CopyingN.node {k : Nat} {l : List Nd} {w wr : World} {oa : Option Addr} {oc : Nat} {xs : List Value} {lo hi : Nat → Nat} (h : CopyingN k l w wr oa oc l.length xs lo hi) (i : Nat) (hil : i < l.length) :
    ∃ g p n p' n', oa = some ⟨g, 0, none⟩ ∧ w.heap.size ≤ g ∧ g < wr.heap.size ∧ CellsAt wr g (i * 7) [.int .i64 l[i].id, .string l[i].type, .int .i64 l[i].cells.kind, .int .i64 l[i].cells.num, .string l[i].cells.text, .slice p l[i].cells.list.length n, .slice p' l[i].cells.names.length n'] ∧ (∀ o, wr.frozen? ⟨g, o, none⟩ = false) ∧
      w.heap.size ≤ lo i ∧ hi i ≤ wr.heap.size ∧ (g < lo i ∨ hi i ≤ g) ∧ VlI wr (lo i) (hi i) (k + 1) l[i].cells [.int .i64 l[i].cells.kind, .int .i64 l[i].cells.num, .string l[i].cells.text, .slice p l[i].cells.list.length n, .slice p' l[i].cells.names.length n'] ∧
      Top wr (lo i + 3) (hi i) k l[i].cells (.slice p l[i].cells.list.length n) (.slice p' l[i].cells.names.length n') ∧
      (∀ q, q < 7 → xs[i * 7 + q]? = [Value.int .i64 l[i].id, .string l[i].type, .int .i64 l[i].cells.kind, .int .i64 l[i].cells.num, .string l[i].cells.text, .slice p l[i].cells.list.length n, .slice p' l[i].cells.names.length n'][q]?) := by
  obtain ⟨vl, vn, b2, b3, b4, b5, b6, b7⟩ := h.kids i hil hil
  obtain ⟨p, n, p', n', rfl, rfl⟩ := b5.slices
  rcases h.own.2 with ⟨_, h2⟩ | ⟨g, cap, cur, h1, h2, h3, h4, h5, h6, h7⟩
  · omega
  · simp only [Value.slice.injEq, true_and] at h1
    obtain ⟨rfl, rfl⟩ := h1
    have hO : Owns wr g cur 49 := h3
    refine ⟨g, p, n, p', n', rfl, h2, hO.lt, fun q hq => ?_, fun o => hO.frozen o, b3, b4, b7 g rfl, b5, b6, b2⟩
    simp only [List.length_cons, List.length_nil] at hq
    rw [hO.cell, ← b2 q (by omega), ← h7, List.getElem?_take, if_pos (by omega), Array.getElem?_toList]

/-- One of the list of a copied node is overwritten. -/
theorem CopyingN.put {k : Nat} {l : List Nd} {w wr : World} {g oc : Nat} {xs : List Value} {lo hi : Nat → Nat} (h : CopyingN k l w wr (some ⟨g, 0, none⟩) oc l.length xs lo hi) {i p gl n c : Nat} {B : Nat} (hB : B ≤ w.heap.size) (hil : i < l.length) {vn : Value} {v' : Vl} {cs : List Value}
    (hx : ∀ q, q < 7 → xs[i * 7 + q]? = [Value.int .i64 l[i].id, .string l[i].type, .int .i64 l[i].cells.kind, .int .i64 l[i].cells.num, .string l[i].cells.text, .slice (some ⟨gl, 0, none⟩) n c, vn][q]?) (hT : Top wr (lo i + 3) (hi i) k l[i].cells (.slice (some ⟨gl, 0, none⟩) n c) vn)
    (hw : l.length * 104 ≤ 140737488351232) (hl : ∀ (i : Nat) (h : i < l.length), I64 l[i].id ∧ l[i].type.size ≤ 140737488351232) (hk : I64 l[i].cells.kind) (hn : I64 l[i].cells.num) (ht : l[i].cells.text.size ≤ 140737488351232) (hw1 : l[i].cells.list.length * 80 ≤ 140737488351232) (hw2 : l[i].cells.names.length * 16 ≤ 140737488351232) (hns : ∀ (m : Nat) (h : m < l[i].cells.names.length), l[i].cells.names[m].size ≤ 140737488351232)
    (hp : p < l[i].cells.list.length) (hcs : cs.length = 5) (hv : VlR (wr.setCells gl (p * 5) cs) B k v' cs) :
    NdRow (wr.setCells gl (p * 5) cs) B (k + 1) (l.set i { l[i] with cells := { l[i].cells with list := l[i].cells.list.set p v' } }) (.slice (some ⟨g, 0, none⟩) l.length oc) := by
  obtain ⟨vl0, vn0, _, b3, b4, _, _, b7⟩ := h.kids i hil hil
  have hgi := b7 g rfl
  obtain ⟨hg1, hg2⟩ : lo i + 3 ≤ gl ∧ gl < hi i := by
    obtain ⟨mid, _, h1, h2, h3, h4, _⟩ := hT
    have := h4 gl rfl
    exact ⟨(h3.lt gl rfl).1, by omega⟩
  have hgg : g ≠ gl := by omega
  refine Row.of_owns (l := l.set i { l[i] with cells := { l[i].cells with list := l[i].cells.list.set p v' } }) (base := w.heap.size) (e := 49) (xs := xs) (by rw [List.length_set]; exact ownsRow_in h.own (fun g' hg' hb => by simp [Value.ownBlock] at hg'; subst hg'; exact setCells_other _ _ _ _ hgg)) hB (by rw [List.length_set]; exact hw) (fun m hm => ?_)
  rw [List.length_set] at hm
  by_cases hmi : m = i
  · subst hmi
    simp only [List.getElem_set_self]
    exact ⟨_, rfl, hx, _, _, rfl, (hl m hil).1, (hl m hil).2, Top.put hT (by omega) hk hn ht hw1 hw2 hns hp hcs hv⟩
  · simp only [List.getElem_set_ne (fun h => hmi h.symm)]
    obtain ⟨vl, vn', c2, c3, c4, c5, c6, c7⟩ := h.kids m hm hm
    have hoff : gl < lo m ∨ hi m ≤ gl := by
      rcases Nat.lt_or_gt_of_ne hmi with h1 | h1
      · have := h.apart m i h1 hil; omega
      · have := h.apart i m h1 hm; omega
    exact ⟨_, rfl, c2, vl, vn', rfl, (hl m hm).1, (hl m hm).2, VlR.base (by omega) _ _ _ (c5.same (fun y y1 y2 => setCells_other _ _ _ _ (by omega))).read⟩

theorem Top.slots {W : World} {lo hi k n c j : Nat} {oa : Option Addr} {t : Vl} {vn : Value} (h : Top W lo hi k t (.slice oa n c) vn) (hj : j < t.list.length) :
    ∃ gl, oa = some ⟨gl, 0, none⟩ ∧ lo ≤ gl ∧ gl < hi ∧ (∀ o, W.frozen? ⟨gl, o, none⟩ = false) ∧ ∀ q, q < 5 → ∃ u, W.cell? ⟨gl, j * 5 + q, none⟩ = some u := by
  obtain ⟨mid, xs, h1, h2, h3, h4, _⟩ := h
  have h34 := h4
  rcases h3.2 with ⟨_, d⟩ | ⟨gl, cap, cur, d1, d2, d3, d4, d5, d6, d7⟩
  · omega
  · simp only [Value.slice.injEq] at d1
    obtain ⟨rfl, _, _⟩ := d1
    have hO : Owns W gl cur 35 := d3
    have := h34 gl rfl
    refine ⟨gl, rfl, d2, by omega, fun o => hO.frozen o, fun q hq => ?_⟩
    rw [hO.cell]
    exact ⟨cur[j * 5 + q]'(by omega), Array.getElem?_eq_getElem _⟩

/-! ### What a change makes of nodes -/
/-- A tree with a value set: the first of that name turned, or one more, last. -/
def setV (t : Vl) (s : ByteArray) (v : Vl) : Option Vl :=
  match t.names.findIdx? (fun x => x.toList == s.toList) with
  | some p => some { t with list := t.list.set p v }
  | none => if 12 ≤ t.names.length then none else some { t with list := t.list ++ [v], names := t.names ++ [s] }
def setAt (l : List Nd) (i : Nat) (h : i < l.length) (s : ByteArray) (v : Vl) : List Nd × Bool :=
  if nameB s.data.toList && okB false 3 v then
    match setV l[i].cells s v with
    | none => (l, false)
    | some c => (l.set i { l[i] with cells := c }, true)
  else (l, false)
def SetI (l : List Nd) (id : Int) (s : ByteArray) (v : Vl) (p : List Nd × Bool) : Prop :=
  (∃ (i : Nat) (h : i < l.length), l[i].id = id ∧ p = setAt l i h s v) ∨ ((∀ (j : Nat) (h : j < l.length), l[j].id ≠ id) ∧ p = (l, false))

theorem setV_hit {t : Vl} {s : ByteArray} {v : Vl} {p : Nat} (hp : p < t.names.length) (he : (t.names[p].toList == s.toList) = true) (hno : ∀ (m : Nat) (h : m < t.names.length), m < p → (t.names[m].toList == s.toList) = false) : setV t s v = some { t with list := t.list.set p v } := by
  have h : t.names.findIdx? (fun x => x.toList == s.toList) = some p := by
    rw [List.findIdx?_eq_some_iff_getElem]
    exact ⟨hp, he, fun j hj => by rw [hno j (by omega) hj]; exact Bool.false_ne_true⟩
  unfold setV
  rw [h]
theorem setV_miss {t : Vl} {s : ByteArray} {v : Vl} (hno : ∀ (m : Nat) (h : m < t.names.length), (t.names[m].toList == s.toList) = false) : setV t s v = if 12 ≤ t.names.length then none else some { t with list := t.list ++ [v], names := t.names ++ [s] } := by
  have h : t.names.findIdx? (fun x => x.toList == s.toList) = none := by
    rw [List.findIdx?_eq_none_iff]
    intro x hx
    obtain ⟨m, hm, rfl⟩ := List.getElem_of_mem hx
    exact hno m hm
  unfold setV
  rw [h]

end Go.Proofs.Ytapcibhkkjiojaa

namespace Go.Proofs.Ytapcibhkkjiojaa
open Go.RowKit
set_option linter.unusedVariables false
set_option linter.unusedSimpArgs false

/-- What StoreSet answers. -/
def SetP (l : List Nd) (id : Int) (s : ByteArray) (t : Vl) (p : List Nd × Bool) : Prop := (storeB l = true ∧ SetI l id s t p) ∨ (storeB l = false ∧ p = ([], false))

theorem cell_set_ne (w : World) {g o o' : Nat} (v : Value) (h : o ≠ o') : (w.setCell ⟨g, o, none⟩ v).cell? ⟨g, o', none⟩ = w.cell? ⟨g, o', none⟩ :=
  World.cell?_setCell_other _ _ _ _ (fun he => h (by injection he))
theorem cell_set_eq (w : World) {g o : Nat} {u : Value} (v : Value) (h : w.cell? ⟨g, o, none⟩ = some u) : (w.setCell ⟨g, o, none⟩ v).cell? ⟨g, o, none⟩ = some v :=
  World.cell?_setCell_same _ _ _ h

theorem CopyingN.grow {k : Nat} {l : List Nd} {w wr W : World} {g oc : Nat} {xs : List Value} {lo hi : Nat → Nat} (h : CopyingN k l w wr (some ⟨g, 0, none⟩) oc l.length xs lo hi) {i gl gn cl cn n n' mid bn bl B : Nat} {p p' : Option Addr} (hB : B ≤ w.heap.size) (hil : i < l.length) {v' : Vl} {s : ByteArray} {cs xl : List Value}
    (hmid : lo i + 3 ≤ mid ∧ mid ≤ hi i) (hl1 : ∀ b, (Value.slice p l[i].cells.list.length n).ownBlock = some b → lo i + 3 ≤ b ∧ b < mid) (hn1 : ∀ b, (Value.slice p' l[i].cells.names.length n').ownBlock = some b → mid ≤ b ∧ b < hi i)
    (hkids : ∀ (m : Nat) (h : m < l[i].cells.list.length), ∃ cs a b, cs.length = 5 ∧ (∀ q, q < 5 → xl[m * 5 + q]? = cs[q]?) ∧ lo i + 3 ≤ a ∧ b ≤ mid ∧ VlI wr a b k l[i].cells.list[m] cs ∧ (∀ g, (Value.slice p l[i].cells.list.length n).ownBlock = some g → g < a ∨ b ≤ g))
    (hw : l.length * 104 ≤ 140737488351232) (hl : ∀ (i : Nat) (h : i < l.length), I64 l[i].id ∧ l[i].type.size ≤ 140737488351232) (hk : I64 l[i].cells.kind) (hn : I64 l[i].cells.num) (ht : l[i].cells.text.size ≤ 140737488351232) (hw1 : (l[i].cells.list.length + 1) * 80 ≤ 140737488351232) (hw2 : (l[i].cells.names.length + 1) * 16 ≤ 140737488351232) (hns : ∀ (m : Nat) (h : m < l[i].cells.names.length), l[i].cells.names[m].size ≤ 140737488351232) (hs : s.size ≤ 140737488351232)
    (hxl : xl.length = l[i].cells.list.length * 5) (hcs : cs.length = 5) (hv : VlR W B k v' cs)
    (hsame : ∀ b, w.heap.size ≤ b → b < wr.heap.size → b ≠ g → some b ≠ (Value.slice p l[i].cells.list.length n).ownBlock → some b ≠ (Value.slice p' l[i].cells.names.length n').ownBlock → W.heap[b]? = wr.heap[b]?)
    (hcell : ∀ o, o ≠ i * 7 + 5 → o ≠ i * 7 + 6 → W.cell? ⟨g, o, none⟩ = wr.cell? ⟨g, o, none⟩) (h5 : W.cell? ⟨g, i * 7 + 5, none⟩ = some (.slice (some ⟨gl, 0, none⟩) (l[i].cells.list.length + 1) cl)) (h6 : W.cell? ⟨g, i * 7 + 6, none⟩ = some (.slice (some ⟨gn, 0, none⟩) (l[i].cells.names.length + 1) cn))
    (hnown : W.ownsRow bn 9 1 (.slice (some ⟨gn, 0, none⟩) (l[i].cells.names.length + 1) cn) (l[i].cells.names.length + 1) (l[i].cells.names.map Value.string ++ [.string s])) (hbn : B ≤ bn)
    (hlown : W.ownsRow bl 35 5 (.slice (some ⟨gl, 0, none⟩) (l[i].cells.list.length + 1) cl) (l[i].cells.list.length + 1) (xl ++ cs)) (hbl : B ≤ bl) :
    NdRow W B (k + 1) (l.set i { l[i] with cells := { l[i].cells with list := l[i].cells.list ++ [v'], names := l[i].cells.names ++ [s] } }) (.slice (some ⟨g, 0, none⟩) l.length oc) := by
  obtain ⟨vl0, vn0, x0, b3, b4, _, _, b7⟩ := h.kids i hil hil
  have hgi := b7 g rfl
  rcases h.own.2 with ⟨h1, _⟩ | ⟨g', cap, cur, h1, h2, h3, h4, h5', h6', h7⟩
  · simp at h1
  simp only [Value.slice.injEq, Option.some.injEq, Addr.mk.injEq, and_true, true_and] at h1
  obtain ⟨rfl, rfl⟩ := h1
  have hO : Owns wr g cur 49 := h3
  have hcur : ∀ m q, m < l.length → q < 7 → wr.cell? ⟨g, m * 7 + q, none⟩ = xs[m * 7 + q]? := fun m q hm hq => by
    rw [hO.cell, ← h7, List.getElem?_take, if_pos (by omega), Array.getElem?_toList]
  refine Or.inr ⟨⟨g, 0, none⟩, oc, by rw [List.length_set], by rw [List.length_set]; exact h4, h5', by rw [List.length_set]; exact hw, fun m hm => ⟨by show B ≤ g; omega, rfl, ?_⟩⟩
  rw [List.length_set] at hm
  by_cases hmi : m = i
  · subst hmi
    simp only [List.getElem_set_self]
    refine ⟨[.int .i64 l[m].id, .string l[m].type, .int .i64 l[m].cells.kind, .int .i64 l[m].cells.num, .string l[m].cells.text, .slice (some ⟨gl, 0, none⟩) (l[m].cells.list.length + 1) cl, .slice (some ⟨gn, 0, none⟩) (l[m].cells.names.length + 1) cn], rfl, fun q hq => ?_, _, _, rfl, (hl m hil).1, (hl m hil).2, ?_⟩
    · show W.cell? ⟨g, 0 + m * 7 + q, none⟩ = _
      simp only [List.length_cons, List.length_nil] at hq
      rw [Nat.zero_add]
      by_cases hq5 : q = 5
      · subst hq5; exact h5
      by_cases hq6 : q = 6
      · subst hq6; exact h6
      rw [hcell _ (by omega) (by omega), hcur m q hil (by omega), x0 q (by omega)]
      match q, hq, hq5, hq6 with
      | 0, _, _, _ => rfl
      | 1, _, _, _ => rfl
      | 2, _, _, _ => rfl
      | 3, _, _, _ => rfl
      | 4, _, _, _ => rfl
      | q + 5, h, h5, h6 => omega
    · refine VlR.of_rows (t := { l[m].cells with list := l[m].cells.list ++ [v'], names := l[m].cells.names ++ [s] }) (xs := xl ++ cs) (base := bl) (base' := bn) hk hn ht (by simpa using hw1) (by simpa using hw2) (fun q hq => ?_) (by simpa using hlown) hbl (fun q hq => ?_) (by simpa using hnown) hbn
      · simp only [List.length_append, List.length_cons, List.length_nil] at hq
        by_cases hlt : q < l[m].cells.names.length
        · simp only [List.getElem_append_left hlt]; exact hns q hlt
        · obtain rfl : q = l[m].cells.names.length := by omega
          simpa using hs
      · simp only [List.length_append, List.length_cons, List.length_nil] at hq
        by_cases hlt : q < l[m].cells.list.length
        · obtain ⟨cs', a, b, c1, c2, c3, c4, c5, c6⟩ := hkids q hlt
          refine ⟨cs', c1, fun r hr => by rw [List.getElem?_append_left (by omega)]; exact c2 r hr, ?_⟩
          simp only [List.getElem_append_left hlt]
          exact VlR.base (by omega) _ _ _ (c5.same (fun y y1 y2 => hsame y (by omega) (by omega) (by omega) (fun he => by have := c6 y he.symm; omega) (fun he => by have := hn1 y he.symm; omega))).read
        · obtain rfl : q = l[m].cells.list.length := by omega
          refine ⟨cs, hcs, fun r hr => by rw [List.getElem?_append_right (by omega)]; congr 1; omega, ?_⟩
          simpa using hv
  · simp only [List.getElem_set_ne (fun h => hmi h.symm)]
    obtain ⟨vl, vn', c2, c3, c4, c5, c6, c7⟩ := h.kids m hm hm
    have hg7 := c7 g rfl
    have hoff : hi m ≤ lo i ∨ hi i ≤ lo m := by
      rcases Nat.lt_or_gt_of_ne hmi with h1 | h1
      · exact Or.inl (h.apart m i h1 hil)
      · exact Or.inr (h.apart i m h1 hm)
    refine ⟨_, rfl, fun q hq => ?_, vl, vn', rfl, (hl m hm).1, (hl m hm).2, VlR.base (by omega) _ _ _ (c5.same (fun y y1 y2 => hsame y (by omega) (by omega) (by omega) (fun he => by have := hl1 y he.symm; omega) (fun he => by have := hn1 y he.symm; omega))).read⟩
    show W.cell? ⟨g, 0 + m * 7 + q, none⟩ = _
    simp only [List.length_cons, List.length_nil] at hq
    rw [Nat.zero_add, hcell _ (by omega) (by omega), hcur m q hm (by omega), c2 q (by omega)]

/-- The same, by the steps in which it comes about: a name is appended, the node told; a value copied, appended, the node told. -/
theorem CopyingN.grown {k : Nat} {l : List Nd} {w w5 w6 W6 w7 w8 : World} {g oc : Nat} {xs : List Value} {lo hi : Nat → Nat} (h : CopyingN k l w w5 (some ⟨g, 0, none⟩) oc l.length xs lo hi) {i gl gn cl cn n n' mid B : Nat} {p p' : Option Addr} {o6 o8 : Obj} (hB : B ≤ w.heap.size) (hil : i < l.length) {v' : Vl} {s : ByteArray} {cs xl : List Value}
    (hmid : lo i + 3 ≤ mid ∧ mid ≤ hi i) (hl1 : ∀ b, (Value.slice p l[i].cells.list.length n).ownBlock = some b → lo i + 3 ≤ b ∧ b < mid) (hn1 : ∀ b, (Value.slice p' l[i].cells.names.length n').ownBlock = some b → mid ≤ b ∧ b < hi i)
    (hkids : ∀ (m : Nat) (h : m < l[i].cells.list.length), ∃ cs a b, cs.length = 5 ∧ (∀ q, q < 5 → xl[m * 5 + q]? = cs[q]?) ∧ lo i + 3 ≤ a ∧ b ≤ mid ∧ VlI w5 a b k l[i].cells.list[m] cs ∧ (∀ g, (Value.slice p l[i].cells.list.length n).ownBlock = some g → g < a ∨ b ≤ g))
    (hw : l.length * 104 ≤ 140737488351232) (hl : ∀ (i : Nat) (h : i < l.length), I64 l[i].id ∧ l[i].type.size ≤ 140737488351232) (hk : I64 l[i].cells.kind) (hn : I64 l[i].cells.num) (ht : l[i].cells.text.size ≤ 140737488351232) (hw1 : (l[i].cells.list.length + 1) * 80 ≤ 140737488351232) (hw2 : (l[i].cells.names.length + 1) * 16 ≤ 140737488351232) (hns : ∀ (m : Nat) (h : m < l[i].cells.names.length), l[i].cells.names[m].size ≤ 140737488351232) (hs : s.size ≤ 140737488351232)
    (hxl : xl.length = l[i].cells.list.length * 5) (hcs : cs.length = 5)
    (hnown : w6.ownsRow mid 9 1 (.slice (some ⟨gn, 0, none⟩) (l[i].cells.names.length + 1) cn) (l[i].cells.names.length + 1) (l[i].cells.names.map Value.string ++ [.string s])) (hgrow6 : (w5.alloc o6).grownBy w6 (Value.slice p' l[i].cells.names.length n').ownBlock) (hat6 : (Value.slice p' l[i].cells.names.length n').ownBlock = some gn ∨ gn = w5.heap.size + 1)
    (hW6 : W6 = w6.setCell ⟨g, i * 7 + 6, none⟩ (.slice (some ⟨gn, 0, none⟩) (l[i].cells.names.length + 1) cn)) (hb7 : Below W6.heap.size W6 w7) (hI7 : VlI w7 W6.heap.size w7.heap.size k v' cs)
    (hlown : w8.ownsRow (lo i + 3) 35 5 (.slice (some ⟨gl, 0, none⟩) (l[i].cells.list.length + 1) cl) (l[i].cells.list.length + 1) (xl ++ cs)) (hgrow8 : (w7.alloc o8).grownBy w8 (Value.slice p l[i].cells.list.length n).ownBlock) (hat8 : (Value.slice p l[i].cells.list.length n).ownBlock = some gl ∨ gl = w7.heap.size + 1) :
    NdRow (w8.setCell ⟨g, i * 7 + 5, none⟩ (.slice (some ⟨gl, 0, none⟩) (l[i].cells.list.length + 1) cl)) B (k + 1) (l.set i { l[i] with cells := { l[i].cells with list := l[i].cells.list ++ [v'], names := l[i].cells.names ++ [s] } }) (.slice (some ⟨g, 0, none⟩) l.length oc) ∧
      Below B w (w8.setCell ⟨g, i * 7 + 5, none⟩ (.slice (some ⟨gl, 0, none⟩) (l[i].cells.list.length + 1) cl)) := by
  obtain ⟨_, _, _, b3, b4, _, _, b7⟩ := h.kids i hil hil
  have hgi := b7 g rfl
  have hgl := h.own.lt g rfl
  have hz6 := hgrow6.size
  have hz8 := hgrow8.size
  simp at hz6 hz8
  have hzW : W6.heap.size = w6.heap.size := by rw [hW6]; simp [World.setCell]
  have hz7 := hb7.size
  have hbs : w.heap.size ≤ w5.heap.size := h.below.size
  have hng : ∀ b, (Value.slice p l[i].cells.list.length n).ownBlock = some b → b < w5.heap.size ∧ b ≠ g := fun b hb => by have := hl1 b hb; omega
  have hnn : ∀ b, (Value.slice p' l[i].cells.names.length n').ownBlock = some b → b < w5.heap.size ∧ b ≠ g := fun b hb => by have := hn1 b hb; omega
  have e6 : ∀ b, b < w5.heap.size → some b ≠ (Value.slice p' l[i].cells.names.length n').ownBlock → w6.heap[b]? = w5.heap[b]? := fun b h1 h2 => by
    rw [hgrow6.block b (by simp; omega) h2, Below.heap_alloc _ _ _ h1]
  have eW : ∀ b, b ≠ g → W6.heap[b]? = w6.heap[b]? := fun b hb => by rw [hW6]; exact Below.heap_setCell _ _ _ _ hb
  have e8 : ∀ b, b < w7.heap.size → some b ≠ (Value.slice p l[i].cells.list.length n).ownBlock → w8.heap[b]? = w7.heap[b]? := fun b h1 h2 => by
    rw [hgrow8.block b (by simp; omega) h2, Below.heap_alloc _ _ _ h1]
  have eF : ∀ b, b ≠ g → (w8.setCell ⟨g, i * 7 + 5, none⟩ (.slice (some ⟨gl, 0, none⟩) (l[i].cells.list.length + 1) cl)).heap[b]? = w8.heap[b]? := fun b hb => Below.heap_setCell _ _ _ _ hb
  have ng : some g ≠ (Value.slice p l[i].cells.list.length n).ownBlock := fun he => (hng g he.symm).2 rfl
  have nn : some g ≠ (Value.slice p' l[i].cells.names.length n').ownBlock := fun he => (hnn g he.symm).2 rfl
  have c6 : ∀ o, w6.cell? ⟨g, o, none⟩ = w5.cell? ⟨g, o, none⟩ := fun o => World.cell?_of_block (w := w5) (a := ⟨g, o, none⟩) (e6 g hgl.2 nn)
  have c8 : ∀ o, w8.cell? ⟨g, o, none⟩ = W6.cell? ⟨g, o, none⟩ := fun o => World.cell?_of_block (w := W6) (a := ⟨g, o, none⟩) ((e8 g (by omega) ng).trans (hb7.block g (by omega)))
  have hcell7 : ∀ q, q < 7 → ∃ u, w5.cell? ⟨g, i * 7 + q, none⟩ = some u := fun q hq => by
    rcases h.own.2 with ⟨h1, _⟩ | ⟨g', cap, cur, h1, h2, h3, h4, h5', h6', h7⟩
    · simp at h1
    · simp only [Value.slice.injEq, Option.some.injEq, Addr.mk.injEq, and_true, true_and] at h1
      obtain ⟨rfl, rfl⟩ := h1
      have hO : Owns w5 g cur 49 := h3
      rw [hO.cell]
      exact ⟨cur[i * 7 + q]'(by omega), Array.getElem?_eq_getElem _⟩
  have hgn : gn ≠ g ∧ mid ≤ gn ∧ gn < w6.heap.size := by
    have := (hnown.lt gn rfl).2
    rcases hat6 with hat | hat
    · have := hn1 gn hat; omega
    · omega
  have hgl8 : gl ≠ g := by
    rcases hat8 with hat | hat
    · exact (hng gl hat).2
    · omega
  refine ⟨CopyingN.grow (gl := gl) (gn := gn) (cl := cl) (cn := cn) (bn := mid) (bl := lo i + 3) h hB hil hmid hl1 hn1 hkids hw hl hk hn ht hw1 hw2 hns hs hxl hcs ?_ ?_ ?_ ?_ ?_ ?_ (by omega) ?_ (by omega), ?_⟩
  · exact VlR.base (by omega) _ _ _ (VlI.read (hI7.same (fun y y1 y2 => (eF y (by omega)).trans (e8 y y2 (fun he => by have := hng y he.symm; omega)))))
  · intro b h1 h2 h3 h4 h5
    rw [eF b h3, e8 b (by omega) h4, hb7.block b (by omega), eW b h3, e6 b h2 h5]
  · intro o h1 h2
    rw [cell_set_ne _ _ (by omega), c8, hW6, cell_set_ne _ _ (by omega), c6]
  · obtain ⟨u, hu⟩ := hcell7 5 (by omega)
    exact cell_set_eq _ _ (by rw [c8, hW6, cell_set_ne _ _ (by omega), c6]; exact hu)
  · obtain ⟨u, hu⟩ := hcell7 6 (by omega)
    rw [cell_set_ne _ _ (by omega), c8, hW6]
    exact cell_set_eq _ _ (by rw [c6]; exact hu)
  · exact ownsRow_in hnown (fun b hb _ => by
      simp [Value.ownBlock] at hb; subst hb
      rw [eF gn hgn.1, e8 gn (by omega) (fun he => by have := hl1 gn he.symm; omega), hb7.block gn (by omega), eW gn hgn.1])
  · exact ownsRow_in hlown (fun b hb _ => by simp [Value.ownBlock] at hb; subst hb; exact eF gl hgl8)
  · have hos : W6.os = w6.os ∧ W6.tape = w6.tape ∧ W6.output = w6.output := by rw [hW6]; exact ⟨rfl, rfl, rfl⟩
    refine Below.setCell (p := ⟨g, i * 7 + 5, none⟩) (h := ⟨hgrow8.os.trans (hb7.os.trans (hos.1.trans (hgrow6.os.trans h.below.os))), hgrow8.tape.trans (hb7.tape.trans (hos.2.1.trans (hgrow6.tape.trans h.below.tape))), hgrow8.output.trans (hb7.output.trans (hos.2.2.trans (hgrow6.output.trans h.below.output))), by omega, fun b hb => ?_⟩) (hp := by show B ≤ g; omega) _
    rw [e8 b (by omega) (fun he => by have := hl1 b he.symm; omega), hb7.block b (by omega), eW b (by omega), e6 b (by omega) (fun he => by have := hn1 b he.symm; omega), h.below.block b (by omega)]

end Go.Proofs.Ytapcibhkkjiojaa
