
/-
  DERIVED. THE OTHER SIDE's SORTED VALUE: what is known of the list and of the names while they are made. No walk.
-/
import Derived.Test.YtdaohfeajicamaaSrtA
import Derived.Test.YtdaohfeajicamaaSrtO
import Derived.Test.YtdaohfeajicamaaRepV
import Derived.Test.YtdaohfeajicamaaVlInfo
namespace Go.Proofs.Ytdaohfeajicamaa
open Go.RowKit
set_option linter.unusedVariables false
set_option linter.unusedSimpArgs false

theorem less_cmp : ∀ a b : List UInt8, Op.bytesLess a b = decide (Lib.compareBytes a b < 0)
  | [], [] => by simp [Op.bytesLess, Lib.compareBytes]
  | [], _ :: _ => by simp [Op.bytesLess, Lib.compareBytes]
  | _ :: _, [] => by simp [Op.bytesLess, Lib.compareBytes]
  | x :: a, y :: b => by
    simp only [Op.bytesLess, Lib.compareBytes]
    by_cases h1 : x < y
    · simp [h1]
    · by_cases h2 : y < x
      · have h3 : x ≠ y := fun e => by rw [e] at h2; exact absurd h2 (by simp)
        simp [h1, h2, h3]
      · have h3 : x = y := UInt8.le_antisymm (UInt8.not_lt.1 h2) (UInt8.not_lt.1 h1)
        simp [h3, less_cmp a b]
theorem less_bLt (a b : ByteArray) : Op.bytesLess a.toList b.toList = bLt a b := by
  rw [ByteArray.toList_eq, ByteArray.toList_eq, less_cmp]
  rfl

/-- A value that reads so wherever the blocks from lo up to hi are as they are. -/
def VlK (w : World) (lo hi k : Nat) (t : Vl) (cs : List Value) : Prop := ∀ W : World, (∀ b, lo ≤ b → b < hi → W.heap[b]? = w.heap[b]?) → VlR W lo k t cs
theorem VlK.same {w w' : World} {lo hi k : Nat} {t : Vl} {cs : List Value} (h : VlK w lo hi k t cs) (hs : ∀ b, lo ≤ b → b < hi → w'.heap[b]? = w.heap[b]?) : VlK w' lo hi k t cs :=
  fun W hW => h W (fun b h1 h2 => (hW b h1 h2).trans (hs b h1 h2))
theorem VlK.now {w : World} {lo hi k : Nat} {t : Vl} {cs : List Value} (h : VlK w lo hi k t cs) : VlR w lo k t cs := h w (fun _ _ _ => rfl)

theorem heap_alloc_newS (w : World) (o : Obj) : (w.alloc o).heap[w.heap.size]? = some o := by
  show (w.heap.push o)[w.heap.size]? = _
  simp
theorem World.heap_size_allocS (w : World) (o : Obj) : (w.alloc o).heap.size = w.heap.size + 1 := by simp
theorem cell_drS {w : World} {p : Addr} {v : Value} (h : w.cell? p = some v) : w.drew.cell? p = some v := h
theorem cell_alS {w : World} {p : Addr} {v : Value} (h : w.cell? p = some v) (o : Obj) : (w.alloc o).cell? p = some v := (World.cell?_alloc_lt _ _ _ (cell_lt h)).trans h
theorem row_base {w : World} {B B' : Nat} {e : TypeId} {s n : Nat} {v : Value} {xs : List Value} (h : w.ownsRow B e s v n xs) (hb : B' ≤ B) : w.ownsRow B' e s v n xs := by
  refine ⟨h.1, ?_⟩
  rcases h.2 with q | ⟨g, cap, cur, q1, q2, q3⟩
  · exact Or.inl q
  · exact Or.inr ⟨g, cap, cur, q1, Nat.le_trans hb q2, q3⟩
theorem row_same {w w' : World} {B : Nat} {e : TypeId} {s n : Nat} {v : Value} {xs : List Value} (h : w.ownsRow B e s v n xs) (hs : ∀ g, v.ownBlock = some g → w'.heap[g]? = w.heap[g]?) : w'.ownsRow B e s v n xs := by
  refine ⟨h.1, ?_⟩
  rcases h.2 with q | ⟨g, cap, cur, rfl, q2, q3, q4⟩
  · exact Or.inl q
  · exact Or.inr ⟨g, cap, cur, rfl, q2, by rw [hs g rfl]; exact q3, q4⟩
theorem row_below {w w' : World} {B : Nat} {e : TypeId} {s n : Nat} {v : Value} {xs : List Value} (h : w.ownsRow B e s v n xs) (hb : Below w.heap.size w w') : w'.ownsRow B e s v n xs :=
  row_same h fun g hg => hb.block g (h.lt g hg).2

theorem below_grownS {w wr w2 : World} {o : Obj} {B : Nat} {row : Option Nat} (hb : Below B w wr) (hB : B ≤ w.heap.size) (hgrow : (wr.alloc o).grownBy w2 row) (hrow : ∀ k, row = some k → B ≤ k) : Below B w w2 := by
  refine ⟨hgrow.os.trans hb.os, hgrow.tape.trans hb.tape, hgrow.output.trans hb.output, by have := hgrow.size; have := hb.size; simp at *; omega, fun k hk => ?_⟩
  have hs := hb.size
  rw [hgrow.block k (by simp; omega) (fun he => by have := hrow k he.symm; omega)]
  exact (Below.heap_alloc _ _ _ (by omega)).trans (hb.block k hk)
theorem below_grown0 {w wr w2 : World} {B : Nat} {row : Option Nat} (hb : Below B w wr) (hB : B ≤ w.heap.size) (hgrow : wr.grownBy w2 row) (hrow : ∀ k, row = some k → B ≤ k) : Below B w w2 := by
  refine ⟨hgrow.os.trans hb.os, hgrow.tape.trans hb.tape, hgrow.output.trans hb.output, by have := hgrow.size; have := hb.size; omega, fun k hk => ?_⟩
  have hs := hb.size
  rw [hgrow.block k (by omega) (fun he => by have := hrow k he.symm; omega)]
  exact hb.block k hk

/-- The list so far. -/
structure OutL (k : Nat) (B : Nat) (wr : World) (L : List Vl) (lv : Value) (xs : List Value) : Prop where
  own : wr.ownsRow B 29 5 lv L.length xs
  kids : ∀ (i : Nat) (h : i < L.length), ∃ cs lo hi, cs.length = 5 ∧ (∀ q, q < 5 → xs[i * 5 + q]? = cs[q]?) ∧ B ≤ lo ∧ hi ≤ wr.heap.size ∧ VlK wr lo hi k L[i] cs
/-- The names so far. -/
def OutN (B : Nat) (wr : World) (N : List ByteArray) (nv : Value) : Prop := wr.ownsRow B 9 1 nv N.length (N.map Value.string)

theorem OutL.nil (k B : Nat) (w : World) : OutL k B w [] (.slice none 0 0) [] := ⟨⟨rfl, Or.inl ⟨rfl, rfl⟩⟩, fun i h => absurd h (Nat.not_lt_zero _)⟩
theorem OutN.nil (B : Nat) (w : World) : OutN B w [] (.slice none 0 0) := ⟨rfl, Or.inl ⟨rfl, rfl⟩⟩
theorem OutL.same {k B : Nat} {w w' : World} {L : List Vl} {lv : Value} {xs : List Value} (h : OutL k B w L lv xs) (hs : ∀ b, B ≤ b → b < w.heap.size → w'.heap[b]? = w.heap[b]?) (hz : w.heap.size ≤ w'.heap.size) : OutL k B w' L lv xs := by
  refine ⟨row_same h.own fun g hg => hs g (h.own.lt g hg).1 (h.own.lt g hg).2, fun i hi => ?_⟩
  obtain ⟨cs, lo, hi', a1, a2, a3, a4, a5⟩ := h.kids i hi
  exact ⟨cs, lo, hi', a1, a2, a3, Nat.le_trans a4 hz, a5.same fun b h1 h2 => hs b (Nat.le_trans a3 h1) (Nat.lt_of_lt_of_le h2 a4)⟩
theorem OutN.same {B : Nat} {w w' : World} {N : List ByteArray} {nv : Value} (h : OutN B w N nv) (hs : ∀ b, B ≤ b → b < w.heap.size → w'.heap[b]? = w.heap[b]?) : OutN B w' N nv :=
  row_same h fun g hg => hs g (World.ownsRow.lt h g hg).1 (World.ownsRow.lt h g hg).2

theorem ins_lt {α : Type} {P : List α} {j i : Nat} {x : α} (hj : j ≤ P.length) (h : i < (insAt P j x).length) (hij : i < j) : (insAt P j x)[i] = P[i]'(by omega) := by
  have e : (insAt P j x)[i]? = P[i]? := by
    unfold insAt
    rw [List.append_assoc, List.getElem?_append_left (by rw [List.length_take]; omega), List.getElem?_take, if_pos hij]
  rw [List.getElem?_eq_getElem h, List.getElem?_eq_getElem (by omega)] at e
  exact Option.some.inj e
theorem ins_eq {α : Type} {P : List α} {j : Nat} {x : α} (hj : j ≤ P.length) (h : j < (insAt P j x).length) : (insAt P j x)[j] = x := by
  have hl : (P.take j).length = j := by rw [List.length_take]; omega
  have e : (insAt P j x)[j]? = some x := by
    unfold insAt
    rw [List.append_assoc, List.getElem?_append_right (by omega), hl, Nat.sub_self]
    rfl
  rw [List.getElem?_eq_getElem h] at e
  exact Option.some.inj e
theorem ins_gt {α : Type} {P : List α} {j i : Nat} {x : α} (hj : j ≤ P.length) (h : i + 1 < (insAt P j x).length) (hij : j ≤ i) : (insAt P j x)[i + 1] = P[i]'(by rw [insAt_len] at h; omega) := by
  have hi : i < P.length := by rw [insAt_len] at h; omega
  have hl : (P.take j).length = j := by rw [List.length_take]; omega
  have e : (insAt P j x)[i + 1]? = P[i]? := by
    unfold insAt
    rw [List.getElem?_append_right (by rw [List.length_append, hl]; simp; omega), List.getElem?_drop]
    congr 1
    rw [List.length_append, hl]
    simp
    omega
  rw [List.getElem?_eq_getElem h, List.getElem?_eq_getElem hi] at e
  exact Option.some.inj e

theorem OutL.one {k B : Nat} {w : World} {L : List Vl} {lv : Value} {xs : List Value} (h : OutL k B w L lv xs) : ∀ u ∈ xs, u.oneCell' = true := by
  intro u hu
  obtain ⟨q, hq, rfl⟩ := List.mem_iff_getElem.1 hu
  have hxl : xs.length = L.length * 5 := h.own.1
  obtain ⟨cs, lo, hi, a1, a2, _, _, a5⟩ := h.kids (q / 5) (by omega)
  have e := a2 (q % 5) (by omega)
  rw [show q / 5 * 5 + q % 5 = q by omega, List.getElem?_eq_getElem hq] at e
  obtain ⟨a, c, a', c', rfl⟩ := a5.now.cells
  have hm : xs[q] ∈ [Value.int .i64 L[q / 5].kind, .int .i64 L[q / 5].num, .string L[q / 5].text, .slice a L[q / 5].list.length c, .slice a' L[q / 5].names.length c'] := List.mem_of_getElem? e.symm
  simp only [List.mem_cons, List.not_mem_nil, or_false] at hm
  rcases hm with hm | hm | hm | hm | hm <;> rw [hm] <;> rfl

theorem OutL.some_of {k B i oc : Nat} {w : World} {L : List Vl} {oa : Option Addr} {xs : List Value} (h : OutL k B w L (.slice oa i oc) xs) (hl : 0 < L.length) : ∃ g, oa = some ⟨g, 0, none⟩ := by
  rcases h.own.2 with ⟨_, h2⟩ | ⟨g, cap, cur, h1, _⟩
  · omega
  · simp only [Value.slice.injEq] at h1
    exact ⟨g, h1.1⟩
theorem OutL.cap_of {k B i oc : Nat} {w : World} {L : List Vl} {oa : Option Addr} {xs : List Value} (h : OutL k B w L (.slice oa i oc) xs) (hl : L.length = i) : i ≤ oc := by
  rcases h.own.2 with ⟨_, h2⟩ | ⟨g, cap, cur, h1, _, _, h4, _⟩
  · omega
  · simp only [Value.slice.injEq] at h1
    omega
theorem OutN.some_of {B oc n : Nat} {w : World} {N : List ByteArray} {oa : Option Addr} (h : OutN B w N (.slice oa n oc)) (hl : 0 < N.length) : ∃ g, oa = some ⟨g, 0, none⟩ := by
  rcases h.2 with ⟨_, h2⟩ | ⟨g, cap, cur, h1, _⟩
  · omega
  · simp only [Value.slice.injEq] at h1
    exact ⟨g, h1.1⟩
theorem OutN.cap_of {B oc : Nat} {w : World} {N : List ByteArray} {oa : Option Addr} (h : OutN B w N (.slice oa N.length oc)) : N.length ≤ oc := by
  rcases h.2 with ⟨_, h2⟩ | ⟨g, cap, cur, h1, _, _, h4, _⟩
  · omega
  · simp only [Value.slice.injEq] at h1
    omega

/-- One more was put in among them. -/
theorem OutL.ins {k B j : Nat} {wr w2 : World} {L : List Vl} {lv v2 : Value} {xs cs : List Value} {x : Vl} {lo hi : Nat} (h : OutL k B wr L lv xs) (hj : j ≤ L.length) (hb : Below wr.heap.size wr w2)
    (hc : cs.length = 5) (hx : VlK w2 lo hi k x cs) (hlo : B ≤ lo) (hhi : hi ≤ w2.heap.size)
    (hown : w2.ownsRow B 29 5 v2 (L.length + 1) (xs.take (j * 5) ++ cs ++ xs.drop (j * 5))) : OutL k B w2 (insAt L j x) v2 (xs.take (j * 5) ++ cs ++ xs.drop (j * 5)) := by
  have hxl : xs.length = L.length * 5 := h.own.1
  have hkid : ∀ (i : Nat) (hi : i < L.length), ∃ cs lo hi, cs.length = 5 ∧ (∀ q, q < 5 → xs[i * 5 + q]? = cs[q]?) ∧ B ≤ lo ∧ hi ≤ w2.heap.size ∧ VlK w2 lo hi k L[i] cs := fun i hi => by
    obtain ⟨cs, lo, hi', a1, a2, a3, a4, a5⟩ := h.kids i hi
    exact ⟨cs, lo, hi', a1, a2, a3, Nat.le_trans a4 hb.size, a5.same fun b h1 h2 => hb.block b (Nat.lt_of_lt_of_le h2 a4)⟩
  have htl : (xs.take (j * 5)).length = j * 5 := by rw [List.length_take]; omega
  refine ⟨by rw [insAt_len]; exact hown, fun i hi => ?_⟩
  rcases Nat.lt_trichotomy i j with hij | rfl | hij
  · rw [ins_lt hj hi hij]
    obtain ⟨cs', lo', hi', a1, a2, a3⟩ := hkid i (by omega)
    refine ⟨cs', lo', hi', a1, fun q hq => ?_, a3⟩
    rw [List.append_assoc, List.getElem?_append_left (by omega), List.getElem?_take, if_pos (by omega)]
    exact a2 q hq
  · rw [ins_eq hj hi]
    refine ⟨cs, lo, _, hc, fun q hq => ?_, hlo, hhi, hx⟩
    rw [List.append_assoc, List.getElem?_append_right (by omega), htl, List.getElem?_append_left (by omega)]
    congr 1
    omega
  · obtain ⟨i', rfl⟩ : ∃ i', i = i' + 1 := ⟨i - 1, by omega⟩
    rw [ins_gt hj hi (by omega)]
    have hil : i' < L.length := by rw [insAt_len] at hi; omega
    obtain ⟨cs', lo', hi', a1, a2, a3⟩ := hkid i' hil
    refine ⟨cs', lo', hi', a1, fun q hq => ?_, a3⟩
    have hl2 : (xs.take (j * 5) ++ cs).length = j * 5 + 5 := by rw [List.length_append, htl, hc]
    rw [List.getElem?_append_right (by omega), List.getElem?_drop, hl2, ← a2 q hq]
    congr 1
    omega
theorem OutN.ins {B j : Nat} {w2 : World} {N : List ByteArray} {v2 : Value} {x : ByteArray} (hown : w2.ownsRow B 9 1 v2 (N.length + 1) ((N.map Value.string).take j ++ [.string x] ++ (N.map Value.string).drop j)) : OutN B w2 (insAt N j x) v2 := by
  show World.ownsRow _ _ _ _ _ _ _
  have e : (insAt N j x).map Value.string = (N.map Value.string).take j ++ [.string x] ++ (N.map Value.string).drop j := insAt_map _ _ _ _
  rw [e, insAt_len]
  exact hown

/-- .. and the slice was stored into the box. -/
theorem out_met {k j tot : Nat} {si : Vl} {w W0 w5 : World} {L : List Vl} {N : List ByteArray} {xs cs : List Value} {lv nv v' x0 x1 x2 : Value} {c0 c1 : Array Value} {lo hi : Nat}
    (hol : OutL k (w.heap.size + 3) W0 L lv xs) (hon : OutN (w.heap.size + 3) W0 N nv)
    (ho : Owns W0 w.heap.size c0 29 ∧ Owns W0 (w.heap.size + 1) c1 29 ∧ Owns W0 (w.heap.size + 1 + 1) #[x0, x1, x2, lv, nv] 29)
    (hbw : Below w.heap.size w W0) (hsz : w.heap.size + 3 ≤ W0.heap.size) (hj : j ≤ L.length) (hb5 : Below W0.heap.size W0 w5) (hcs : cs.length = 5) (hx : VlK w5 lo hi k si cs) (hlo : W0.heap.size ≤ lo) (hhi : hi ≤ w5.heap.size)
    (hown : w5.ownsRow W0.heap.size 29 5 v' tot (xs.take (j * 5) ++ cs ++ xs.drop (j * 5))) (htot : tot = L.length + 1) {wx : World} (hwx : wx.heap = (w5.setCell ⟨w.heap.size + 1 + 1, 3, none⟩ v').heap) (hwo : wx.os = w5.os ∧ wx.tape = w5.tape ∧ wx.output = w5.output) :
    OutL k (w.heap.size + 3) wx (insAt L j si) v' (xs.take (j * 5) ++ cs ++ xs.drop (j * 5)) ∧ OutN (w.heap.size + 3) wx N nv ∧
      (Owns wx w.heap.size c0 29 ∧ Owns wx (w.heap.size + 1) c1 29 ∧ Owns wx (w.heap.size + 1 + 1) #[x0, x1, x2, v', nv] 29) ∧ Below w.heap.size w wx ∧ w.heap.size + 3 ≤ wx.heap.size := by
  subst htot
  have hne : ∀ b, b ≠ w.heap.size + 1 + 1 → wx.heap[b]? = w5.heap[b]? := fun b hb => by rw [hwx]; exact Below.heap_setCell _ _ _ _ hb
  have hz : wx.heap.size = w5.heap.size := by rw [hwx]; simp [World.setCell]
  have h5 := hb5.size
  have hl := hol.ins hj hb5 hcs hx (by omega) hhi (row_base hown hsz)
  refine ⟨hl.same (fun b h1 h2 => hne b (by omega)) (by omega), hon.same (fun b h1 h2 => (hne b (by omega)).trans (hb5.block b h2)), ⟨?_, ?_, ?_⟩, ?_, by omega⟩
  · show wx.heap[w.heap.size]? = _
    rw [hne _ (by omega), hb5.block _ (by omega)]
    exact ho.1
  · show wx.heap[w.heap.size + 1]? = _
    rw [hne _ (by omega), hb5.block _ (by omega)]
    exact ho.2.1
  · have h6 : Owns w5 (w.heap.size + 1 + 1) #[x0, x1, x2, lv, nv] 29 := by
      show w5.heap[w.heap.size + 1 + 1]? = _
      rw [hb5.block _ (by omega)]
      exact ho.2.2
    have h7 := h6.set 3 v'
    show wx.heap[w.heap.size + 1 + 1]? = _
    rw [hwx]
    have h8 : Owns (w5.setCell ⟨w.heap.size + 1 + 1, 3, none⟩ v') (w.heap.size + 1 + 1) #[x0, x1, x2, v', nv] 29 := by simpa using h7
    exact h8
  · refine ⟨hwo.1.trans (hb5.os.trans hbw.os), hwo.2.1.trans (hb5.tape.trans hbw.tape), hwo.2.2.trans (hb5.output.trans hbw.output), by have := hbw.size; omega, fun b hb => ?_⟩
    rw [hne b (by omega), hb5.block b (by omega), hbw.block b hb]

/-- The same of a name. -/
theorem out_metN {k j tot : Nat} {w W0 w5 : World} {L : List Vl} {N : List ByteArray} {nm : ByteArray} {xs : List Value} {lv nv v' x0 x1 x2 : Value} {c0 c1 : Array Value}
    (hol : OutL k (w.heap.size + 3) W0 L lv xs)
    (ho : Owns W0 w.heap.size c0 29 ∧ Owns W0 (w.heap.size + 1) c1 29 ∧ Owns W0 (w.heap.size + 1 + 1) #[x0, x1, x2, lv, nv] 29)
    (hbw : Below w.heap.size w W0) (hsz : w.heap.size + 3 ≤ W0.heap.size) (hb5 : Below W0.heap.size W0 w5)
    (hown : w5.ownsRow W0.heap.size 9 1 v' tot ((N.map Value.string).take j ++ [.string nm] ++ (N.map Value.string).drop j)) (htot : tot = N.length + 1) {wx : World} (hwx : wx.heap = (w5.setCell ⟨w.heap.size + 1 + 1, 4, none⟩ v').heap) (hwo : wx.os = w5.os ∧ wx.tape = w5.tape ∧ wx.output = w5.output) :
    OutL k (w.heap.size + 3) wx L lv xs ∧ OutN (w.heap.size + 3) wx (insAt N j nm) v' ∧
      (Owns wx w.heap.size c0 29 ∧ Owns wx (w.heap.size + 1) c1 29 ∧ Owns wx (w.heap.size + 1 + 1) #[x0, x1, x2, lv, v'] 29) ∧ Below w.heap.size w wx ∧ w.heap.size + 3 ≤ wx.heap.size := by
  subst htot
  have hne : ∀ b, b ≠ w.heap.size + 1 + 1 → wx.heap[b]? = w5.heap[b]? := fun b hb => by rw [hwx]; exact Below.heap_setCell _ _ _ _ hb
  have hz : wx.heap.size = w5.heap.size := by rw [hwx]; simp [World.setCell]
  have h5 := hb5.size
  have hn : OutN (w.heap.size + 3) w5 (insAt N j nm) v' := OutN.ins (row_base hown hsz)
  refine ⟨hol.same (fun b h1 h2 => (hne b (by omega)).trans (hb5.block b h2)) (by omega), hn.same (fun b h1 h2 => hne b (by omega)), ⟨?_, ?_, ?_⟩, ?_, by omega⟩
  · show wx.heap[w.heap.size]? = _
    rw [hne _ (by omega), hb5.block _ (by omega)]
    exact ho.1
  · show wx.heap[w.heap.size + 1]? = _
    rw [hne _ (by omega), hb5.block _ (by omega)]
    exact ho.2.1
  · have h6 : Owns w5 (w.heap.size + 1 + 1) #[x0, x1, x2, lv, nv] 29 := by
      show w5.heap[w.heap.size + 1 + 1]? = _
      rw [hb5.block _ (by omega)]
      exact ho.2.2
    have h7 := h6.set 4 v'
    show wx.heap[w.heap.size + 1 + 1]? = _
    rw [hwx]
    have h8 : Owns (w5.setCell ⟨w.heap.size + 1 + 1, 4, none⟩ v') (w.heap.size + 1 + 1) #[x0, x1, x2, lv, v'] 29 := by simpa using h7
    exact h8
  · refine ⟨hwo.1.trans (hb5.os.trans hbw.os), hwo.2.1.trans (hb5.tape.trans hbw.tape), hwo.2.2.trans (hb5.output.trans hbw.output), by have := hbw.size; omega, fun b hb => ?_⟩
    rw [hne b (by omega), hb5.block b (by omega), hbw.block b hb]

/-- What a region makes: an empty slice and a slice of one text, in either order. -/
theorem made_one {W0 W : World} (hW : W.heap = (W0.alloc (.cells #[] 9)).heap) : W.ownsRow W0.heap.size 9 1 (.slice (some ⟨W0.heap.size, 0, none⟩) 0 0) 0 [] := by
  have h := World.ownsRow_made (base := W0.heap.size) (e := 9) (size := 1) W0 #[] 0 (Nat.le_refl _) (Nat.zero_le _) rfl
  exact row_same h (fun g hg => by rw [hW])
theorem made_two {W0 W : World} {nm : ByteArray} (hW : W.heap = ((W0.alloc (.cells #[] 9)).alloc (.cells #[.string nm] 9)).heap) :
    W.ownsRow W0.heap.size 9 1 (.slice (some ⟨W0.heap.size, 0, none⟩) 0 0) 0 [] ∧ W.heap[W0.heap.size + 1]? = some (.cells #[.string nm] 9) := by
  have h := World.ownsRow.alloc (World.ownsRow_made (base := W0.heap.size) (e := 9) (size := 1) W0 #[] 0 (Nat.le_refl _) (Nat.zero_le _) rfl) (.cells #[.string nm] 9)
  refine ⟨row_same h (fun g hg => by rw [hW]), ?_⟩
  rw [hW]
  have h2 := heap_alloc_newS (W0.alloc (.cells #[] 9)) (.cells #[.string nm] 9)
  rw [World.heap_size_allocS] at h2
  exact h2
theorem made_rev {W0 W : World} {nm : ByteArray} (hW : W.heap = ((W0.alloc (.cells #[.string nm] 9)).alloc (.cells #[] 9)).heap) :
    W.ownsRow W0.heap.size 9 1 (.slice (some ⟨W0.heap.size + 1, 0, none⟩) 0 0) 0 [] ∧ W.heap[W0.heap.size]? = some (.cells #[.string nm] 9) := by
  have h := World.ownsRow_made (base := W0.heap.size) (e := 9) (size := 1) (W0.alloc (.cells #[.string nm] 9)) #[] 0 (by simp) (Nat.zero_le _) rfl
  rw [World.heap_size_allocS] at h
  refine ⟨row_same h (fun g hg => by rw [hW]), ?_⟩
  rw [hW, Below.heap_alloc _ _ _ (by simp)]
  exact heap_alloc_newS W0 _

theorem OutL.row {k B : Nat} {wr W : World} {L : List Vl} {oa : Option Addr} {oc : Nat} {xs : List Value} (h : OutL k B wr L (.slice oa L.length oc) xs) (hw : L.length * 80 ≤ 140737488351232) (hW : ∀ b, B ≤ b → b < wr.heap.size → W.heap[b]? = wr.heap[b]?) :
    Row W B 5 80 (VlR W B k) L (.slice oa L.length oc) := by
  rcases h.own.2 with ⟨h1, h2⟩ | ⟨g, cap, cur, h1, h2, h3, h4, h5, h6, h7⟩
  · simp only [Value.slice.injEq] at h1
    obtain ⟨rfl, _, rfl⟩ := h1
    rw [h2]
    exact Or.inl ⟨rfl, List.eq_nil_of_length_eq_zero h2⟩
  · simp only [Value.slice.injEq, true_and] at h1
    obtain ⟨rfl, rfl⟩ := h1
    have hgl : g < wr.heap.size := (Array.getElem?_eq_some_iff.1 h3).1
    refine Or.inr ⟨⟨g, 0, none⟩, oc, rfl, h4, h5, hw, fun i hi => ⟨h2, rfl, ?_⟩⟩
    obtain ⟨cs, lo, hi', b1, b2, b3, b4, b5⟩ := h.kids i hi
    refine ⟨cs, b1, fun q hq => ?_, VlR.base b3 k _ _ (b5 W (fun b c1 c2 => hW b (by omega) (by omega)))⟩
    show W.cell? ⟨g, 0 + i * 5 + q, none⟩ = _
    rw [b1] at hq
    have hO : Owns W g cur 29 := by show W.heap[g]? = _; rw [hW g h2 hgl]; exact h3
    rw [hO.cell, Nat.zero_add, ← b2 q hq, ← h7, List.getElem?_take, if_pos (by omega), Array.getElem?_toList]
theorem OutN.row {B : Nat} {wr W : World} {N : List ByteArray} {oa : Option Addr} {oc : Nat} (h : OutN B wr N (.slice oa N.length oc)) (hw : N.length * 16 ≤ 140737488351232) (hn : ∀ (i : Nat) (h : i < N.length), N[i].size ≤ 140737488351232) (hW : ∀ b, B ≤ b → b < wr.heap.size → W.heap[b]? = wr.heap[b]?) :
    StrRow W B N (.slice oa N.length oc) := by
  rcases h.2 with ⟨h1, h2⟩ | ⟨g, cap, cur, h1, h2, h3, h4, h5, h6, h7⟩
  · simp only [Value.slice.injEq] at h1
    obtain ⟨rfl, _, rfl⟩ := h1
    rw [h2]
    exact Or.inl ⟨rfl, List.eq_nil_of_length_eq_zero h2⟩
  · simp only [Value.slice.injEq, true_and] at h1
    obtain ⟨rfl, rfl⟩ := h1
    have hgl : g < wr.heap.size := (Array.getElem?_eq_some_iff.1 h3).1
    refine Or.inr ⟨⟨g, 0, none⟩, oc, rfl, h4, h5, hw, fun i hi => ⟨h2, rfl, [.string N[i]], rfl, fun q hq => ?_, rfl, hn i hi⟩⟩
    obtain rfl : q = 0 := by simpa using hq
    show W.cell? ⟨g, 0 + i * 1 + 0, none⟩ = _
    have hO : Owns W g cur 9 := by show W.heap[g]? = _; rw [hW g h2 hgl]; exact h3
    have hx : (cur.toList.take (N.length * 1))[i]? = (N.map Value.string)[i]? := by rw [h7]
    rw [List.getElem?_take, if_pos (by omega), Array.getElem?_toList] at hx
    rw [hO.cell, Nat.zero_add, Nat.add_zero, Nat.mul_one, hx]
    simp [hi]

end Go.Proofs.Ytdaohfeajicamaa
