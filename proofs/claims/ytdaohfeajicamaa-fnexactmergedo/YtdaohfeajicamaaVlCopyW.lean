
/-
  DERIVED. THE WALK OF spec.l1Copy.
-/
import Derived.Test.YtdaohfeajicamaaVlCopy
import Derived.Deep.RegionLaw
namespace Go.Proofs.Ytdaohfeajicamaa
open Go.RowKit
set_option linter.unusedVariables false
set_option linter.unusedSimpArgs false

def CopyC (k : Nat) : Prop := ∀ (t : Vl) (vl vn : Value) (w : World), VlR w 0 k t [.int .i64 t.kind, .int .i64 t.num, .string t.text, vl, vn] →
  Calls Try.prog 77 #[.agg #[.int .i64 t.kind, .int .i64 t.num, .string t.text, vl, vn]] w fun e w' =>
    ∃ vl' vn', e = .returned (.agg #[.int .i64 t.kind, .int .i64 t.num, .string t.text, vl', vn']) ∧ VlI w' w.heap.size w'.heap.size k t [.int .i64 t.kind, .int .i64 t.num, .string t.text, vl', vn'] ∧ Below w.heap.size w w'

theorem VlI.slices {w : World} {lo hi k : Nat} {t : Vl} {x y z vl vn : Value} (h : VlI w lo hi k t [x, y, z, vl, vn]) : ∃ p n p' n', vl = .slice p t.list.length n ∧ vn = .slice p' t.names.length n' := by
  obtain ⟨a, c, a', c', hv⟩ := h.read.cells
  simp only [List.cons.injEq, and_true] at hv
  exact ⟨a, c, a', c', hv.2.2.2.1, hv.2.2.2.2⟩

theorem alloc_atC (w : World) (o : Obj) : (w.alloc o).heap[w.heap.size]? = some o := by
  show (w.heap.push o)[w.heap.size]? = _
  simp
theorem at0' (w : World) (o0 o1 o2 : Obj) : (((w.alloc o0).alloc o1).alloc o2).heap[w.heap.size]? = some o0 := by
  rw [Below.heap_alloc _ _ _ (by simp <;> omega), Below.heap_alloc _ _ _ (by simp <;> omega)]
  exact alloc_atC w o0
theorem at1' (w : World) (o0 o1 o2 : Obj) : (((w.alloc o0).alloc o1).alloc o2).heap[w.heap.size + 1]? = some o1 := by
  rw [Below.heap_alloc _ _ _ (by simp <;> omega)]
  have h := alloc_atC (w.alloc o0) o1
  rwa [show (w.alloc o0).heap.size = w.heap.size + 1 by simp] at h
theorem at2' (w : World) (o0 o1 o2 : Obj) : (((w.alloc o0).alloc o1).alloc o2).heap[w.heap.size + 1 + 1]? = some o2 := by
  have h := alloc_atC ((w.alloc o0).alloc o1) o2
  rwa [show ((w.alloc o0).alloc o1).heap.size = w.heap.size + 1 + 1 by simp] at h

/-- What is known while the names are copied, behind the world wl. -/
structure Naming (t : Vl) (w wl wx : World) (oa : Option Addr) (oc j : Nat) : Prop where
  own : wx.ownsRow wl.heap.size 9 1 (.slice oa j oc) j ((t.names.take j).map Value.string)
  same : ∀ b, b < wl.heap.size → b ≠ w.heap.size + 2 → wx.heap[b]? = wl.heap[b]?
  size : wl.heap.size ≤ wx.heap.size
  keep : wx.os = wl.os ∧ wx.tape = wl.tape ∧ wx.output = wl.output

theorem Naming.far {t : Vl} {w wl wx : World} {oa : Option Addr} {oc j : Nat} (h : Naming t w wl wx oa oc j) {b : Nat} (hb : b < wl.heap.size) : some b ≠ (Value.slice oa j oc).ownBlock := by
  intro he
  have := (h.own.lt b he.symm).1
  omega

theorem Naming.step {t : Vl} {w wl wx w2 W : World} {oa : Option Addr} {oc j g cap : Nat} {o : Obj} (h : Naming t w wl wx oa oc j) (hj : j < t.names.length) (hB : w.heap.size + 3 ≤ wl.heap.size)
    (hown : w2.ownsRow wl.heap.size 9 1 (.slice (some ⟨g, 0, none⟩) (j + 1) cap) (j + 1) ((t.names.take j).map Value.string ++ [.string t.names[j]]))
    (hg : ((wx.alloc o).drew).grownBy w2 (Value.slice oa j oc).ownBlock) (hW : ∀ b, b ≠ w.heap.size + 2 → W.heap[b]? = w2.heap[b]?) (hWs : W.heap.size = w2.heap.size) (hWb : W.os = w2.os ∧ W.tape = w2.tape ∧ W.output = w2.output) :
    Naming t w wl W (some ⟨g, 0, none⟩) cap (j + 1) := by
  have hs2 : wx.heap.size + 1 ≤ w2.heap.size := by have := hg.size; simpa using this
  have hsz := h.size
  refine ⟨?_, fun b h1 h2 => ?_, by omega, ⟨hWb.1.trans (hg.os.trans h.keep.1), hWb.2.1.trans (hg.tape.trans h.keep.2.1), hWb.2.2.trans (hg.output.trans h.keep.2.2)⟩⟩
  · obtain ⟨a1, a2⟩ := hown
    have he : (t.names.take (j + 1)).map Value.string = (t.names.take j).map Value.string ++ [.string t.names[j]] := by
      rw [List.take_succ_eq_append_getElem hj, List.map_append]; rfl
    rw [he]
    refine ⟨a1, ?_⟩
    rcases a2 with ⟨a2, a3⟩ | ⟨g', cap', cur, a2, a3, a4, a5⟩
    · omega
    · simp only [Value.slice.injEq, Option.some.injEq, Addr.mk.injEq] at a2
      obtain ⟨⟨rfl, _⟩, _, rfl⟩ := a2
      exact Or.inr ⟨g, cap, cur, rfl, a3, by rw [hW g (by omega)]; exact a4, a5⟩
  · rw [hW b h2, hg.block b (by simp; omega) (h.far h1)]
    exact (Below.heap_alloc _ _ _ (by omega)).trans (h.same b h1 h2)

theorem Copying.row {k : Nat} {t : Vl} {w wl W : World} {oa : Option Addr} {oc : Nat} {xs : List Value} (h : Copying k t w wl oa oc t.list.length xs) (hw : t.list.length * 80 ≤ 140737488351232) (hW : ∀ b, w.heap.size + 3 ≤ b → b < wl.heap.size → W.heap[b]? = wl.heap[b]?) :
    Row W w.heap.size 5 80 (VlQ W w.heap.size k) t.list (.slice oa t.list.length oc) := by
  rcases h.own.2 with ⟨h1, h2⟩ | ⟨g, cap, cur, h1, h2, h3, h4, h5, h6, h7⟩
  · simp only [Value.slice.injEq] at h1
    obtain ⟨rfl, _, rfl⟩ := h1
    rw [h2]
    exact Or.inl ⟨rfl, List.eq_nil_of_length_eq_zero h2⟩
  · simp only [Value.slice.injEq] at h1
    obtain ⟨rfl, _, rfl⟩ := h1
    have hgl : g < wl.heap.size := (Owns.lt (w := wl) (b := g) (c := cur) (e := 29) h3)
    refine Or.inr ⟨⟨g, 0, none⟩, oc, rfl, h4, h5, hw, fun i hi => ⟨by show w.heap.size ≤ g; omega, rfl, ?_⟩⟩
    obtain ⟨cs, lo, hi', b1, b2, b3, b4, b5, b6⟩ := h.kids i hi hi
    refine ⟨cs, b1, fun q hq => ?_, VlQ.base (by omega) k _ _ (b5 W (fun b c1 c2 => hW b (by omega) (by omega)))⟩
    show W.cell? ⟨g, 0 + i * 5 + q, none⟩ = _
    rw [b1] at hq
    have hO : Owns W g cur 29 := Owns.same (w := wl) h3 (hW g h2 hgl)
    rw [hO.cell, Nat.zero_add, ← b2 q hq, ← h7, List.getElem?_take, if_pos (by omega), Array.getElem?_toList]

theorem Copying.plain {k : Nat} {t : Vl} {w wl W : World} {oa : Option Addr} {oc : Nat} {xs : List Value} (h : Copying k t w wl oa oc t.list.length xs) (hW : ∀ b, w.heap.size + 3 ≤ b → b < wl.heap.size → W.heap[b]? = wl.heap[b]?) (hne : t.list ≠ []) :
    ∃ a n c, Value.slice oa t.list.length oc = .slice (some a) n c ∧ ∃ cc e, W.heap[a.block]? = some (.cells cc e (0, 0)) := by
  rcases h.own.2 with ⟨h1, h2⟩ | ⟨g, cap, cur, h1, h2, h3, h4⟩
  · exact absurd (List.eq_nil_of_length_eq_zero h2) hne
  · have hgl : g < wl.heap.size := (Owns.lt (w := wl) (b := g) (c := cur) (e := 29) h3)
    exact ⟨_, _, _, h1, cur, _, by show W.heap[g]? = _; rw [hW g h2 hgl]; exact h3⟩

theorem Naming.row {t : Vl} {w wl wx W : World} {oa : Option Addr} {oc : Nat} (h : Naming t w wl wx oa oc t.names.length) (hB : w.heap.size ≤ wl.heap.size) (hw : t.names.length * 16 ≤ 140737488351232) (hn : ∀ (i : Nat) (h : i < t.names.length), t.names[i].size ≤ 140737488351232) (hW : ∀ b, wl.heap.size ≤ b → b < wx.heap.size → W.heap[b]? = wx.heap[b]?) :
    StrRow W w.heap.size t.names (.slice oa t.names.length oc) := by
  rcases h.own.2 with ⟨h1, h2⟩ | ⟨g, cap, cur, h1, h2, h3, h4, h5, h6, h7⟩
  · simp only [Value.slice.injEq] at h1
    obtain ⟨rfl, _, rfl⟩ := h1
    rw [h2]
    exact Or.inl ⟨rfl, List.eq_nil_of_length_eq_zero h2⟩
  · simp only [Value.slice.injEq] at h1
    obtain ⟨rfl, _, rfl⟩ := h1
    have hgl : g < wx.heap.size := (Owns.lt (w := wx) (b := g) (c := cur) (e := 9) h3)
    refine Or.inr ⟨⟨g, 0, none⟩, oc, rfl, h4, h5, hw, fun i hi => ⟨by show w.heap.size ≤ g; omega, rfl, [.string t.names[i]], rfl, fun q hq => ?_, rfl, hn i hi⟩⟩
    obtain rfl : q = 0 := by simpa using hq
    show W.cell? ⟨g, 0 + i * 1 + 0, none⟩ = _
    have hO : Owns W g cur 9 := Owns.same (w := wx) h3 (hW g h2 hgl)
    have hx : (cur.toList.take (t.names.length * 1))[i]? = ((t.names.take t.names.length).map Value.string)[i]? := by rw [h7]
    rw [List.getElem?_take, if_pos (by omega), Array.getElem?_toList] at hx
    rw [hO.cell, Nat.zero_add, Nat.add_zero, Nat.mul_one, hx, List.take_length]
    simp [hi]

/-- A tree or list whose two rows lie in blocks of their own, with what is in the list apart from them. -/
def Top (W : World) (lo hi k : Nat) (t : Vl) (vl vn : Value) : Prop :=
  ∃ mid xs, lo ≤ mid ∧ mid ≤ hi ∧ W.ownsRow lo 29 5 vl t.list.length xs ∧ (∀ g, vl.ownBlock = some g → g < mid) ∧
    (∀ (i : Nat) (h : i < t.list.length), ∃ cs a b, cs.length = 5 ∧ (∀ q, q < 5 → xs[i * 5 + q]? = cs[q]?) ∧ lo ≤ a ∧ b ≤ mid ∧ VlI W a b k t.list[i] cs ∧ (∀ g, vl.ownBlock = some g → g < a ∨ b ≤ g)) ∧
    W.ownsRow mid 9 1 vn t.names.length (t.names.map Value.string) ∧ (∀ g, vn.ownBlock = some g → g < hi)

theorem ownsRow_in {w W : World} {base e size n : Nat} {v : Value} {xs : List Value} (h : w.ownsRow base e size v n xs) (hs : ∀ g, v.ownBlock = some g → base ≤ g → W.heap[g]? = w.heap[g]?) : W.ownsRow base e size v n xs := by
  obtain ⟨h1, h2⟩ := h
  refine ⟨h1, ?_⟩
  rcases h2 with h2 | ⟨g, cap, cur, rfl, h3, h4, h5⟩
  · exact Or.inl h2
  · exact Or.inr ⟨g, cap, cur, rfl, h3, (hs g rfl h3).trans h4, h5⟩

theorem Top.same {W W' : World} {lo hi k : Nat} {t : Vl} {vl vn : Value} (h : Top W lo hi k t vl vn) (hs : ∀ b, lo ≤ b → b < hi → W'.heap[b]? = W.heap[b]?) : Top W' lo hi k t vl vn := by
  obtain ⟨mid, xs, h1, h2, h3, h4, h5, h6, h7⟩ := h
  refine ⟨mid, xs, h1, h2, ownsRow_in h3 (fun g hg hb => hs g hb (by have := h4 g hg; omega)), h4, fun i hi => ?_, ownsRow_in h6 (fun g hg hb => hs g (by omega) (h7 g hg)), h7⟩
  obtain ⟨cs, a, b, c1, c2, c3, c4, c5, c6⟩ := h5 i hi
  exact ⟨cs, a, b, c1, c2, c3, c4, c5.same (fun y y1 y2 => hs y (by omega) (by omega)), c6⟩

theorem Top.of {k : Nat} {t : Vl} {w wl wx W : World} {oa oa' : Option Addr} {oc oc' hi : Nat} {xs : List Value} (h : Copying k t w wl oa oc t.list.length xs) (hn : Naming t w wl wx oa' oc' t.names.length)
    (hW : ∀ b, w.heap.size + 3 ≤ b → b < wx.heap.size → W.heap[b]? = wx.heap[b]?) (hh : wx.heap.size ≤ hi) : Top W (w.heap.size + 3) hi k t (.slice oa t.list.length oc) (.slice oa' t.names.length oc') := by
  have hz := h.size
  have hzn := hn.size
  have hs : ∀ b, w.heap.size + 3 ≤ b → b < wl.heap.size → W.heap[b]? = wl.heap[b]? := fun b h1 h2 => (hW b h1 (by omega)).trans (hn.same b h2 (by omega))
  refine ⟨wl.heap.size, xs, hz, by omega, ownsRow_in h.own (fun g hg hb => hs g hb (h.own.lt g hg).2), fun g hg => (h.own.lt g hg).2, fun i hi => ?_, ?_, fun g hg => by have := (hn.own.lt g hg).2; omega⟩
  · obtain ⟨cs, a, b, c1, c2, c3, c4, c5, c6⟩ := h.kids i hi hi
    exact ⟨cs, a, b, c1, c2, c3, c4, c5.same (fun y y1 y2 => hs y (by omega) (by omega)), c6⟩
  · have ho := hn.own
    rw [List.take_length] at ho
    exact ownsRow_in ho (fun g hg hb => hW g (by omega) (hn.own.lt g hg).2)

/-- What a copy is known to be: it reads so, and its own rows lie apart. -/
def CopyT (k : Nat) : Prop := ∀ (t : Vl) (vl vn : Value) (w : World), VlR w 0 (k + 1) t [.int .i64 t.kind, .int .i64 t.num, .string t.text, vl, vn] →
  Calls Try.prog 77 #[.agg #[.int .i64 t.kind, .int .i64 t.num, .string t.text, vl, vn]] w fun e w' =>
    ∃ vl' vn', e = .returned (.agg #[.int .i64 t.kind, .int .i64 t.num, .string t.text, vl', vn']) ∧ VlI w' w.heap.size w'.heap.size (k + 1) t [.int .i64 t.kind, .int .i64 t.num, .string t.text, vl', vn'] ∧ Below w.heap.size w w' ∧ Top w' (w.heap.size + 3) w'.heap.size k t vl' vn'

set_option maxHeartbeats 4000000 in
set_option maxRecDepth 4000 in
theorem copyT_step (k : Nat) (ih : CopyC k) : CopyT k := by
  intro t vl vn w ht
  obtain ⟨vl', vn', hv, hkd, hnm, hn, hrow, hnames⟩ := ht
  simp only [List.cons.injEq, true_and, and_true] at hv
  obtain ⟨rfl, rfl⟩ := hv
  obtain ⟨a, c, rfl, hw, hrest⟩ := Row.len hrow
  obtain ⟨a', c', rfl, hw', hrest'⟩ := StrRow.len hnames
  have hli : (t.list.length : Int) ≤ 140737488351232 := by omega
  have hni : (t.names.length : Int) ≤ 140737488351232 := by omega
  obtain ⟨i0, hi0, hz0, hz1, hz2⟩ := info_impl_Value
  obtain ⟨i1, hj0, hy0, hy1, hy2⟩ := info_string
  have HR : Hid _ := hrest
  have HN : Hid _ := hrest'
  have HW : Hid (t.list.length * 80 ≤ 140737488351232 ∧ t.names.length * 16 ≤ 140737488351232) := ⟨hw, hw'⟩
  clear hrow hnames hrest hrest'
  go_enter Try.func77, Try.ntmps77
  go_wp2_with fail
  go_loopw [4] (fun i wr => ∃ (j : Nat) (oa : Option Addr) (oc : Nat) (xs : List Value), j ≤ t.list.length ∧ i = .int .i64 j ∧ Hid (Copying k t w wr oa oc j xs) ∧
    Hid (Owns wr w.heap.size #[.int .i64 t.kind, .int .i64 t.num, .string t.text, .slice a t.list.length c, .slice a' t.names.length c'] 29) ∧ Hid (Owns wr (w.heap.size + 1) #[.int .i64 0, .int .i64 0, .string ⟨#[]⟩, .slice none 0 0, .slice none 0 0] 29) ∧
    Hid (Owns wr (w.heap.size + 1 + 1) #[.int .i64 t.kind, .int .i64 t.num, .string t.text, .slice oa j oc, .slice none 0 0] 29)) (fun i _ => t.list.length - (intOf i).toNat)
  case atStart =>
    refine ⟨0, none, 0, [], Nat.zero_le _, rfl, ⟨⟨rfl, Or.inl ⟨rfl, rfl⟩⟩, fun i _ h => absurd h (Nat.not_lt_zero _), (((Below.refl _ _).alloc (Nat.le_refl _) _).alloc (by simp) _).alloc (by simp; omega) _, by simp⟩, ?_, ?_, ?_⟩
    · exact at0' _ _ _ _
    · exact at1' _ _ _ _
    · exact at2' _ _ _ _
  case round =>
    obtain ⟨j, oa, oc, xs, hj, rfl, HC, HO0, HO1, HO2⟩ := hrel
    have v3 : wr.cell? ⟨w.heap.size, 3, none⟩ = some (.slice a t.list.length c) := by rw [HO0.out.cell]; rfl
    have v4 : wr.cell? ⟨w.heap.size, 4, none⟩ = some (.slice a' t.names.length c') := by rw [HO0.out.cell]; rfl
    have o3 : wr.cell? ⟨w.heap.size + 1 + 1, 3, none⟩ = some (.slice oa j oc) := by rw [HO2.out.cell]; rfl
    have o3f : wr.frozen? ⟨w.heap.size + 1 + 1, 3, none⟩ = false := HO2.out.frozen 3
    by_cases hlt : j < t.list.length
    · obtain ⟨b, off, hab, _, hcs⟩ := HR.out (List.ne_nil_of_length_pos (by omega))
      subst hab
      obtain ⟨cs, hl5, hc, hR⟩ := hcs j hlt
      obtain ⟨p, n, p', n', rfl⟩ := hR.cells
      have hk : Keeps 0 w wr := Keeps.of_below HC.out.below (Nat.le_refl _) _
      have hbw : b < w.heap.size := cell_lt (hc 0 (by simp))
      obtain ⟨c0, c1, c2, c3, c4⟩ := (hc.keeps hk (Nat.zero_le _)).five
      have hszr := HC.out.size
      have NB0 : Hid (some w.heap.size ≠ (Value.slice oa j oc).ownBlock) := HC.out.far (by omega)
      have NB2 : Hid (some (w.heap.size + 1 + 1) ≠ (Value.slice oa j oc).ownBlock) := HC.out.far (by omega)
      have NBb : Hid (some b ≠ (Value.slice oa j oc).ownBlock) := HC.out.far (by omega)
      have HCALL : Hid (Calls Try.prog 77 #[.agg #[.int .i64 t.list[j].kind, .int .i64 t.list[j].num, .string t.list[j].text, .slice p t.list[j].list.length n, .slice p' t.list[j].names.length n']] wr.drew (fun e w1 => ∃ p1 n1 p1' n1',
          e = .returned (.agg #[.int .i64 t.list[j].kind, .int .i64 t.list[j].num, .string t.list[j].text, .slice p1 t.list[j].list.length n1, .slice p1' t.list[j].names.length n1']) ∧
          w1.cell? ⟨w.heap.size, 3, none⟩ = some (.slice (some ⟨b, off, none⟩) t.list.length c) ∧ w1.cell? ⟨b, off + j * 5, none⟩ = some (.int .i64 t.list[j].kind) ∧ w1.cell? ⟨b, off + j * 5 + 1, none⟩ = some (.int .i64 t.list[j].num) ∧ w1.cell? ⟨b, off + j * 5 + 2, none⟩ = some (.string t.list[j].text) ∧
          w1.cell? ⟨b, off + j * 5 + 3, none⟩ = some (.slice p t.list[j].list.length n) ∧ w1.cell? ⟨b, off + j * 5 + 4, none⟩ = some (.slice p' t.list[j].names.length n') ∧
          w1.cell? ⟨w.heap.size + 1 + 1, 3, none⟩ = some (.slice oa j oc) ∧ w1.frozen? ⟨w.heap.size + 1 + 1, 3, none⟩ = false ∧ w.heap.size + 3 ≤ w1.heap.size ∧ w.heap.size + 1 + 1 < w1.heap.size ∧ Hid (w1.ownsRow (w.heap.size + 3) 29 5 (.slice oa j oc) j xs) ∧ Hid (Below wr.heap.size wr w1) ∧
          Hid (VlI w1 wr.heap.size w1.heap.size k t.list[j] [.int .i64 t.list[j].kind, .int .i64 t.list[j].num, .string t.list[j].text, .slice p1 t.list[j].list.length n1, .slice p1' t.list[j].names.length n1']))) := by
        refine (ih t.list[j] _ _ _ (VlR.keeps hk.drew _ _ _ hR)).mono ?_
        rintro e w1 ⟨vl', vn', rfl, hI, hb1⟩
        obtain ⟨p1, n1, p1', n1', rfl, rfl⟩ := hI.slices
        have hb1' : Below wr.heap.size wr w1 := ((Below.refl _ wr).drew).trans hb1
        refine ⟨p1, n1, p1', n1', rfl, cell_on hb1' v3, cell_on hb1' c0, cell_on hb1' c1, cell_on hb1' c2, cell_on hb1' c3, cell_on hb1' c4, cell_on hb1' o3, (hb1'.frozen (p := ⟨w.heap.size + 1 + 1, 3, none⟩) (cell_lt o3)).trans o3f, Nat.le_trans hszr hb1'.size, (by have := hb1'.size; omega), ?_, hb1', hI⟩
        have hrow : wr.grownBy w1 none := ⟨hb1'.os, hb1'.tape, hb1'.output, hb1'.size, fun q hq _ => hb1'.block q hq⟩
        exact HC.out.own.kept (row := none) hrow (by cases h : (Value.slice oa j oc).ownBlock <;> simp)
      clear hc hR hcs hk HR hl5
      go_wp2_with fail
      go_region_law (first
          | (refine step_append_lies _ (by rfl) _ _ _ (by rfl) (w.heap.size + 3) 29 i0 _ 5 80 Try.underlying27 hi0 hz0 hz1 hz2 rfl (by omega) (.slice oa j oc) j xs (by rfl) (HOWN.out.alloc _)
              ⟨w1.heap.size, 0, none⟩ 1 1 [.int .i64 t.list[j].kind, .int .i64 t.list[j].num, .string t.list[j].text, .slice p1 t.list[j].list.length n1, .slice p1' t.list[j].names.length n1'] (by rfl) (by rfl) (World.news_of_block (cs := #[.int .i64 t.list[j].kind, .int .i64 t.list[j].num, .string t.list[j].text, .slice p1 t.list[j].list.length n1, .slice p1' t.list[j].names.length n1']) (t := 29) (fr := (0, 0)) (heap_alloc_new w1 _)) (by simp [Value.oneCell'])
              (by omega) (by unfold maxLen; have := HW.out; omega) (by have := HW.out; omega) (by simp; omega) (w1.heap.size + 1) (by simp) ?_; intro g cap w2 hown2 hgrow hat hlt2; have f3' : w2.cell? ⟨w.heap.size + 1 + 1, 3, none⟩ = some (.slice oa j oc) := hgrow.cell (a := ⟨w.heap.size + 1 + 1, 3, none⟩) ((World.cell?_alloc_lt _ _ _ (cell_lt f3)).trans f3) NB2.out; have f3f' : w2.frozen? ⟨w.heap.size + 1 + 1, 3, none⟩ = false := (hgrow.frozen_far ⟨w.heap.size + 1 + 1, 3, none⟩ (by simp; omega) NB2.out).trans ((World.frozen?_of_block (w := w1) (Below.heap_alloc _ _ _ (cell_lt f3))).trans f3f))
          | (go_simp; go_at_call 77; refine (Hid.out HCALL).mono ?_; rintro e w1 ⟨p1, n1, p1', n1', rfl, e3, d0, d1, d2, d3, d4, f3, f3f, hsz1, hsz1', HOWN, HB1, HI⟩))
      all_goals
        have hz1 := HB1.out.size
        have HC' : Hid (Copying k t w (w2.setCell ⟨w.heap.size + 1 + 1, 3, none⟩ (.slice (some ⟨g, 0, none⟩) (j + 1) cap)) (some ⟨g, 0, none⟩) cap (j + 1) (xs ++ [.int .i64 t.list[j].kind, .int .i64 t.list[j].num, .string t.list[j].text, .slice p1 t.list[j].list.length n1, .slice p1' t.list[j].names.length n1'])) :=
          HC.out.step hlt rfl HB1.out HI.out hown2 hgrow hat (fun b hb => Below.heap_setCell _ _ _ _ hb) (by simp [World.setCell]) ⟨rfl, rfl, rfl⟩
        have h0 : ∀ b, b < w.heap.size + 3 → w2.heap[b]? = wr.heap[b]? := fun b hb => by
          rw [hgrow.block b (by simp; omega) (HC.out.far hb), Below.heap_alloc _ _ _ (by omega), HB1.out.block b (by omega)]
        have HO0' : Hid (Owns (w2.setCell ⟨w.heap.size + 1 + 1, 3, none⟩ (.slice (some ⟨g, 0, none⟩) (j + 1) cap)) w.heap.size #[.int .i64 t.kind, .int .i64 t.num, .string t.text, .slice (some ⟨b, off, none⟩) t.list.length c, .slice a' t.names.length c'] 29) := HO0.out.same ((Below.heap_setCell _ _ _ _ (by show _ ≠ w.heap.size + 1 + 1; omega)).trans (h0 _ (by omega)))
        have HO1' : Hid (Owns (w2.setCell ⟨w.heap.size + 1 + 1, 3, none⟩ (.slice (some ⟨g, 0, none⟩) (j + 1) cap)) (w.heap.size + 1) #[.int .i64 0, .int .i64 0, .string ⟨#[]⟩, .slice none 0 0, .slice none 0 0] 29) := HO1.out.same ((Below.heap_setCell _ _ _ _ (by show _ ≠ w.heap.size + 1 + 1; omega)).trans (h0 _ (by omega)))
        have HO2' : Hid (Owns (w2.setCell ⟨w.heap.size + 1 + 1, 3, none⟩ (.slice (some ⟨g, 0, none⟩) (j + 1) cap)) (w.heap.size + 1 + 1) #[.int .i64 t.kind, .int .i64 t.num, .string t.text, .slice (some ⟨g, 0, none⟩) (j + 1) cap, .slice none 0 0] 29) := (HO2.out.same (h0 _ (by omega))).set 3 _
        clear HC HO0 HO1 HO2 hgrow hown2 hat HB1 HI HOWN h0 c0 c1 c2 c3 c4 d0 d1 d2 d3 d4
        go_wp2_with fail
        exact ⟨⟨j + 1, some ⟨g, 0, none⟩, cap, _, by omega, by go_num, HC', HO0', HO1', HO2'⟩, by simp [intOf]; omega⟩
    · obtain rfl : j = t.list.length := by omega
      obtain ⟨wl, rfl⟩ : ∃ wl : World, wl = wr := ⟨wr, rfl⟩
      have hBl := HC.out.size
      have HSZN : Hid (∀ (i : Nat) (h : i < t.names.length), t.names[i].size ≤ 140737488351232) := fun i hi => by
        obtain ⟨b, off, _, _, hcs⟩ := HN.out (List.ne_nil_of_length_pos (by omega))
        exact (hcs i hi).2
      clear HR
      go_wp2_with fail
      clear v3 v4 o3 o3f
      go_loopw [5] (fun i wx => ∃ (j : Nat) (oa' : Option Addr) (oc' : Nat), j ≤ t.names.length ∧ i = .int .i64 j ∧ Hid (Naming t w wl wx oa' oc' j) ∧
        Hid (Owns wx (w.heap.size + 1 + 1) #[.int .i64 t.kind, .int .i64 t.num, .string t.text, .slice oa t.list.length oc, .slice oa' j oc'] 29)) (fun i _ => t.names.length - (intOf i).toNat)
      case atStart => exact ⟨0, none, 0, Nat.zero_le _, rfl, ⟨⟨rfl, Or.inl ⟨rfl, rfl⟩⟩, fun _ _ _ => rfl, Nat.le_refl _, rfl, rfl, rfl⟩, HO2.out⟩
      case round =>
        obtain ⟨j, oa', oc', hj, rfl, HNM, HOX⟩ := hrel
        have hszx := HNM.out.size
        have HOV : Hid (Owns wr w.heap.size #[.int .i64 t.kind, .int .i64 t.num, .string t.text, .slice a t.list.length c, .slice a' t.names.length c'] 29) := HO0.out.same (HNM.out.same _ (by omega) (by omega))
        have HOR : Hid (Owns wr (w.heap.size + 1) #[.int .i64 0, .int .i64 0, .string ⟨#[]⟩, .slice none 0 0, .slice none 0 0] 29) := HO1.out.same (HNM.out.same _ (by omega) (by omega))
        have v4 : wr.cell? ⟨w.heap.size, 4, none⟩ = some (.slice a' t.names.length c') := by rw [HOV.out.cell]; rfl
        have o4 : wr.cell? ⟨w.heap.size + 1 + 1, 4, none⟩ = some (.slice oa' j oc') := by rw [HOX.out.cell]; rfl
        have o4f : wr.frozen? ⟨w.heap.size + 1 + 1, 4, none⟩ = false := HOX.out.frozen 4
        have hzo : w.heap.size + 1 + 1 < wr.heap.size := cell_lt o4
        have hzv : w.heap.size < wr.heap.size := cell_lt v4
        by_cases hlt : j < t.names.length
        · obtain ⟨b, off, hab, _, hcs⟩ := HN.out (List.ne_nil_of_length_pos (by omega))
          subst hab
          obtain ⟨c0, hcz⟩ := hcs j hlt
          have hbw : b < w.heap.size := cell_lt c0
          have c1 : wr.cell? ⟨b, off + j, none⟩ = some (.string t.names[j]) := by
            rw [World.cell?_of_block (w := w) (a := ⟨b, off + j, none⟩) ((HNM.out.same b (by omega) (by omega)).trans (HC.out.below.block b hbw))]
            exact c0
          have hzb : b < wr.heap.size := cell_lt c1
          have NB2 : Hid (some (w.heap.size + 1 + 1) ≠ (Value.slice oa' j oc').ownBlock) := HNM.out.far (by omega)
          clear hcs HN
          go_wp2_with fail
          go_region_law (refine step_append_lies _ (by rfl) _ _ _ (by rfl) wl.heap.size 9 i1 _ 1 16 Try.underlying23 hj0 hy0 hy1 hy2 rfl (by omega) (.slice oa' j oc') j _ (by rfl) ((HNM.out.own.alloc _).drew) ⟨wr.heap.size, 0, none⟩ 1 1 [.string t.names[j]] (by rfl) (by rfl) (World.news_of_block (cs := #[.string t.names[j]]) (t := 9) (fr := (0, 0)) (heap_alloc_new wr _)) (by simp [Value.oneCell']) (by omega) (by unfold maxLen; have := HW.out; omega) (by have := HW.out; omega) (by simp; omega) (wr.heap.size + 1) (by simp) ?_; intro g cap w2 hown2 hgrow hat hlt2; have f4' : w2.cell? ⟨w.heap.size + 1 + 1, 4, none⟩ = some (.slice oa' j oc') := hgrow.cell (a := ⟨w.heap.size + 1 + 1, 4, none⟩) ((World.cell?_alloc_lt _ _ _ hzo).trans o4) NB2.out; have f4f' : w2.frozen? ⟨w.heap.size + 1 + 1, 4, none⟩ = false := (hgrow.frozen_far ⟨w.heap.size + 1 + 1, 4, none⟩ (by simp; omega) NB2.out).trans ((World.frozen?_of_block (w := wr) (Below.heap_alloc _ _ _ hzo)).trans o4f))
          all_goals
            have HNM' : Hid (Naming t w wl (w2.setCell ⟨w.heap.size + 1 + 1, 4, none⟩ (.slice (some ⟨g, 0, none⟩) (j + 1) cap)) (some ⟨g, 0, none⟩) cap (j + 1)) :=
              HNM.out.step hlt hBl hown2 hgrow (fun b hb => Below.heap_setCell _ _ _ _ hb) (by simp [World.setCell]) ⟨rfl, rfl, rfl⟩
            have HOX' : Hid (Owns (w2.setCell ⟨w.heap.size + 1 + 1, 4, none⟩ (.slice (some ⟨g, 0, none⟩) (j + 1) cap)) (w.heap.size + 1 + 1) #[.int .i64 t.kind, .int .i64 t.num, .string t.text, .slice oa t.list.length oc, .slice (some ⟨g, 0, none⟩) (j + 1) cap] 29) :=
              (HOX.out.same ((hgrow.block _ (by simp; omega) NB2.out).trans (Below.heap_alloc _ _ _ hzo))).set 4 _
            clear HNM HOX hgrow hown2 hat c0 c1
            go_wp2_with fail
            exact ⟨⟨j + 1, some ⟨g, 0, none⟩, cap, by omega, by go_num, HNM', HOX'⟩, by simp [intOf]; omega⟩
        · obtain rfl : j = t.names.length := by omega
          have o0 : wr.cell? ⟨w.heap.size + 1 + 1, 0, none⟩ = some (.int .i64 t.kind) := by rw [HOX.out.cell]; rfl
          have o1 : wr.cell? ⟨w.heap.size + 1 + 1, 1, none⟩ = some (.int .i64 t.num) := by rw [HOX.out.cell]; rfl
          have o2 : wr.cell? ⟨w.heap.size + 1 + 1, 2, none⟩ = some (.string t.text) := by rw [HOX.out.cell]; rfl
          have o3 : wr.cell? ⟨w.heap.size + 1 + 1, 3, none⟩ = some (.slice oa t.list.length oc) := by rw [HOX.out.cell]; rfl
          have r0 : wr.cell? ⟨w.heap.size + 1, 0, none⟩ = some (.int .i64 0) := by rw [HOR.out.cell]; rfl
          have r1 : wr.cell? ⟨w.heap.size + 1, 1, none⟩ = some (.int .i64 0) := by rw [HOR.out.cell]; rfl
          have r2 : wr.cell? ⟨w.heap.size + 1, 2, none⟩ = some (.string ⟨#[]⟩) := by rw [HOR.out.cell]; rfl
          have r3 : wr.cell? ⟨w.heap.size + 1, 3, none⟩ = some (.slice none 0 0) := by rw [HOR.out.cell]; rfl
          have r4 : wr.cell? ⟨w.heap.size + 1, 4, none⟩ = some (.slice none 0 0) := by rw [HOR.out.cell]; rfl
          have rf := fun o => HOR.out.frozen o
          have hzr : w.heap.size + 1 < wr.heap.size := cell_lt r0
          go_wp2_with fail
          refine bodyPost_ret (v := .agg #[.int .i64 t.kind, .int .i64 t.num, .string t.text, .slice oa t.list.length oc, .slice oa' t.names.length oc']) (by simp [results, Try.results77, go_sem, hzr, r0, r1, r2, r3, r4]) rfl ⟨_, _, rfl, fun W hW => ⟨_, _, rfl, hkd, hnm, hn, ?_, ?_, ?_⟩, ?_, ?_⟩
          · refine HC.out.row HW.out.1 (fun b h1 h2 => ?_)
            rw [hW b (by omega) (by simp [World.setCell]; omega)]
            simp only [World.setCell, Array.getElem?_modify]
            repeat rw [if_neg (by omega)]
            exact HNM.out.same b h2 (by omega)
          · refine HNM.out.row (by omega) HW.out.2 HSZN.out (fun b h1 h2 => ?_)
            rw [hW b (by omega) (by simp [World.setCell]; omega)]
            simp only [World.setCell, Array.getElem?_modify]
            repeat rw [if_neg (by omega)]
          · refine HC.out.plain (fun b h1 h2 => ?_)
            rw [hW b (by omega) (by simp [World.setCell]; omega)]
            simp only [World.setCell, Array.getElem?_modify]
            repeat rw [if_neg (by omega)]
            exact HNM.out.same b h2 (by omega)
          · have hbel : Below w.heap.size w wr := ⟨HNM.out.keep.1.trans HC.out.below.os, HNM.out.keep.2.1.trans HC.out.below.tape, HNM.out.keep.2.2.trans HC.out.below.output, by have := HC.out.below.size; omega, fun b hb => (HNM.out.same b (by omega) (by omega)).trans (HC.out.below.block b hb)⟩
            exact ((((hbel.setCell (by simp) _).setCell (by simp) _).setCell (by simp) _).setCell (by simp) _).setCell (by simp) _
          · refine Top.of HC.out HNM.out (fun b h1 h2 => ?_) (by simp [World.setCell])
            simp only [World.setCell, Array.getElem?_modify]
            repeat rw [if_neg (by omega)]

theorem copy_step (k : Nat) (ih : CopyC k) : CopyC (k + 1) := fun t vl vn w h =>
  (copyT_step k ih t vl vn w h).mono fun e w' ⟨vl', vn', h1, h2, h3, _⟩ => ⟨vl', vn', h1, h2, h3⟩

theorem copy_all : ∀ k : Nat, CopyC k
  | 0 => fun _ _ _ _ h => h.elim
  | k + 1 => copy_step k (copy_all k)
theorem copyT_all (k : Nat) : CopyT k := copyT_step k (copy_all k)

end Go.Proofs.Ytdaohfeajicamaa
