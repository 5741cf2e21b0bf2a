
/-
  DERIVED. THE WALK OF laws.markText: a text that hangs on the number alone.
-/
import Derived.Test.YtdaohfeajicamaaNames
import Derived.Test.YtdaohfeajicamaaRep
import Derived.Deep.RegionWith
import Derived.BigQuiet
import Derived.Test.YtdaohfeajicamaaRepV
import Derived.Test.YtdaohfeajicamaaVlCnt
import Derived.Test.YtdaohfeajicamaaVlOwn
import Derived.Test.YtdaohfeajicamaaVlToO
namespace Go.Proofs.Ytdaohfeajicamaa
open Go.RowKit
set_option linter.unusedVariables false
set_option linter.unusedSimpArgs false

def figU (n : Nat) : UInt8 := UInt8.ofNat (48 + n % 10)
/-- Figures of a number ahead of a text. -/
def dig : Nat → Nat → ByteArray → ByteArray
  | 0, _, acc => acc
  | f + 1, n, acc => if n = 0 then acc else dig f (n / 10) (⟨#[figU n]⟩ ++ acc)
theorem dig_zero (f : Nat) (acc : ByteArray) : dig f 0 acc = acc := by cases f <;> simp [dig]
theorem dig_succ {f n : Nat} (h : n ≠ 0) (acc : ByteArray) : dig (f + 1) n acc = dig f (n / 10) (⟨#[figU n]⟩ ++ acc) := by rw [dig, if_neg h]

/-- The text of a mark. -/
def markB (k : Nat) : ByteArray := ⟨#[109]⟩ ++ dig 8 k ByteArray.empty

set_option maxRecDepth 10000 in
set_option maxHeartbeats 1000000 in
theorem markText_any (k : Nat) (w : World) (h1 : 1 ≤ k) (h2 : k ≤ 99999999) :
    Calls Try.prog 64 #[.int .i64 (k : Int)] w fun e w' => e = .returned (.string (markB k)) ∧ Below w.heap.size w w' := by
  have hk1 : (1 : Int) ≤ (k : Int) := by omega
  have hk2 : (k : Int) ≤ 99999999 := by omega
  go_enter Try.func64, Try.ntmps64
  go_wp2_with fail
  go_loopw [0, 3] (fun n o wr => ∃ (f m : Nat) (acc : ByteArray), f ≤ 8 ∧ m < 10 ^ f ∧ m ≤ 99999999 ∧ acc.size + f ≤ 8 ∧ n = .int .i64 (m : Int) ∧ o = .string acc ∧ Hid (dig f m acc = dig 8 k ByteArray.empty) ∧ Below w.heap.size w wr) (fun n _ _ => (intOf n).toNat)
  case atStart => exact ⟨8, k, ByteArray.empty, by omega, by omega, by omega, by simp, rfl, rfl, rfl, Below.refl _ _⟩
  case round =>
    obtain ⟨f, m, acc, hf, hm, hm2, hacc, rfl, rfl, HD, hb⟩ := hrel
    have hm3 : (m : Int) ≤ 99999999 := by omega
    by_cases h0 : m = 0
    · subst h0
      have hfin : Hid (acc = dig 8 k ByteArray.empty) := by have := HD.out; rw [dig_zero] at this; exact this
      clear HD
      go_wp2_with fail
      go_ret
      exact ⟨ret_string (by rw [markB, hfin.out]), hb⟩
    · have hpos : (0 : Int) < (m : Int) := by omega
      have hcv : Sem.run Try.prog (convert 35 9 (Value.slice (some ⟨wr.heap.size, 0, none⟩) 1 1)) (wr.alloc (Obj.cells #[Value.int .u8 (48 + (m : Int) % 10)] 5)) = .ok (.string ⟨#[figU m]⟩) (wr.alloc (Obj.cells #[Value.int .u8 (48 + (m : Int) % 10)] 5)) := by
        have h := run_convert_bytes_arg (P := Try.prog) (wr.alloc (Obj.cells #[Value.int .u8 (48 + (m : Int) % 10)] 5)) 35 5 Try.underlying35 Try.underlying5 wr.heap.size 0 1 1 [48 + (m : Int) % 10] rfl (fun i hi => by
          obtain rfl : i = 0 := by omega
          simp) 9 Try.underlying9
        rw [h]
        have e1 : (48 + (m : Int) % 10).toNat = 48 + m % 10 := by omega
        simp only [strOfNums, List.map_cons, List.map_nil, e1]
        rfl
      have hasz : acc.size ≤ 8 := by omega
      have hf1 : ∃ g, f = g + 1 := by
        cases f with
        | zero => simp at hm; omega
        | succ g => exact ⟨g, rfl⟩
      obtain ⟨g, rfl⟩ := hf1
      have HN : Hid (dig g (m / 10) (⟨#[figU m]⟩ ++ acc) = dig 8 k ByteArray.empty) := by show _ = _; rw [← HD.out, dig_succ h0]
      have hm10 : m / 10 < 10 ^ g := by
        rw [Nat.pow_succ] at hm; omega
      clear HD
      go_wp2_with fail
      refine ⟨⟨g, m / 10, _, by omega, hm10, by omega, ?_, ?_, rfl, HN, hb.alloc hb.size _⟩, ?_⟩
      · simp [ByteArray.size_append]
        have : (⟨#[figU m]⟩ : ByteArray).size = 1 := rfl
        omega
      · go_num
      · simp [intOf]
        omega

end Go.Proofs.Ytdaohfeajicamaa

namespace Go.Proofs.Ytdaohfeajicamaa
open Go.RowKit
set_option linter.unusedVariables false
set_option linter.unusedSimpArgs false

/-- Names that were marked from k on. -/
def MkN (k : Nat) (ns : List ByteArray) : Prop := ∀ (i : Nat) (h : i < ns.length), ns[i] = markB (k + i)
/-- A list that was marked from k on. -/
def MkL (R : Nat → Vl → Prop) (c : Vl → Nat) (k : Nat) (l : List Vl) : Prop := ∀ (i : Nat) (h : i < l.length), R (k + cntS c (l.take i)) l[i]
def MkE : Nat → Nat → Vl → Prop
  | 0, _, _ => False
  | f + 1, k, x => x.kind = (k : Int) ∧ x.num = (k : Int) + 1 ∧ x.text = markB (k + 2) ∧ MkL (MkE f) (cntE f) (k + 3) x.list ∧ MkN (k + 3 + cntS (cntE f) x.list) x.names

theorem dig_size : ∀ (f n : Nat) (acc : ByteArray), (dig f n acc).size ≤ acc.size + f
  | 0, _, acc => by simp [dig]
  | f + 1, n, acc => by
    unfold dig
    split
    · omega
    · have h := dig_size f (n / 10) (⟨#[figU n]⟩ ++ acc)
      rw [ByteArray.size_append] at h
      have h1 : (⟨#[figU n]⟩ : ByteArray).size = 1 := rfl
      omega
theorem markB_size (k : Nat) : (markB k).size ≤ 140737488351232 := by
  have h := dig_size 8 k ByteArray.empty
  unfold markB
  rw [ByteArray.size_append]
  have h1 : (⟨#[109]⟩ : ByteArray).size = 1 := rfl
  have h2 : ByteArray.empty.size = 0 := rfl
  omega

end Go.Proofs.Ytdaohfeajicamaa

namespace Go.Proofs.Ytdaohfeajicamaa
open Go.RowKit
set_option linter.unusedVariables false
set_option linter.unusedSimpArgs false

theorem ret_int {k : IntKind} {a b : Int} (h : a = b) : Ending.returned (.int k a) = .returned (.int k b) := by rw [h]

set_option maxHeartbeats 2000000 in
theorem markStringS_any (l : List ByteArray) (v : Value) (k : Nat) (w : World) (hrow : OwnRow w 9 1 16 StrO 0 0 l v) (hk1 : 1 ≤ k) (hk2 : k + l.length ≤ 99999990) :
    Calls Try.prog 40 #[v, .int .i64 (k : Int)] w fun e w' => e = .returned (.int .i64 ((k + l.length : Nat) : Int)) ∧ ∃ l', l'.length = l.length ∧ MkN k l' ∧ OwnRow w' 9 1 16 StrO 0 0 l' v ∧ TurnsP (At v) w w' := by
  obtain ⟨a, rfl, hw⟩ := hrow.len
  have hlen : (l.length : Int) ≤ 99999990 := by omega
  have hki : (k : Int) ≤ 99999990 := by omega
  have hk0 : (0 : Int) ≤ (k : Int) := by omega
  have HW : Hid (l.length * 16 ≤ 140737488351232) := hw
  clear hw
  go_enter Try.func40, Try.ntmps40
  go_wp2_with fail
  go_loopw [1, 5] (fun n i wr => ∃ (j : Nat) (m : List ByteArray), j ≤ l.length ∧ i = .int .i64 j ∧ n = .int .i64 ((k : Int) + (j : Int)) ∧ Hid (m.length = l.length) ∧ Hid (∀ (q : Nat) (h : q < m.length), q < j → m[q] = markB (k + q)) ∧ Hid (OwnRow wr 9 1 16 StrO 0 0 m (.slice a l.length l.length)) ∧ Hid (TurnsP (At (.slice a l.length l.length)) w wr)) (fun _ i _ => l.length - (intOf i).toNat)
  case atStart => exact ⟨0, l, Nat.zero_le _, rfl, by simp, rfl, fun q h hq => absurd hq (Nat.not_lt_zero _), hrow, TurnsP.refl _ _⟩
  case round =>
    obtain ⟨j, m, hj, rfl, rfl, HML, HM, HO, HT⟩ := hrel
    have hji : (j : Int) ≤ 99999990 := by omega
    have hj0 : (0 : Int) ≤ (j : Int) := by omega
    by_cases hlt : j < l.length
    · rcases HO.out with ⟨h0, _⟩ | ⟨b, c, p, hv, h1, h2, h3, h4, h5, h6, h7, h8⟩
      · have := HML.out; rw [h0] at this; simp at this; omega
      have hml := HML.out
      rw [hml] at hv h3 h6
      simp only [Value.slice.injEq, and_true] at hv
      subst hv
      have hsz := h2.lt
      have hf := fun o => h2.frozen o
      have hx : ∃ x, wr.cell? ⟨b, j, none⟩ = some x := ⟨c[j]'(by omega), by rw [h2.cell]; exact Array.getElem?_eq_getElem _⟩
      obtain ⟨x, hx⟩ := hx
      have ek : ((k + j : Nat) : Int) = (k : Int) + (j : Int) := by omega
      have HC : Hid (Owns wr b c 9 ∧ c.size = l.length * 1 ∧ ∀ (q : Nat) (h : q < m.length), ∃ cs, cs.length = 1 ∧ (∀ r, r < 1 → c[q * 1 + r]? = cs[r]?) ∧ StrR m[q] cs) := ⟨h2, h3, h8⟩
      have HAt : Hid (At (.slice (some ⟨b, 0, none⟩) l.length l.length) b) := At.mk _ _ _
      clear h1 h2 h3 h4 h5 h6 h7 h8 hml HO
      go_wp2_with fail
      have hcall := markText_any (k + j) wr (by omega) (by omega)
      rw [ek] at hcall
      refine hcall.mono ?_
      rintro e w1 ⟨rfl, hb1⟩
      have hx1 := cell_on hb1 hx
      have hf1 : ∀ o, w1.frozen? ⟨b, o, none⟩ = false := fun o => by rw [hb1.frozen (p := ⟨b, o, none⟩) hsz]; exact hf o
      have HT1 : Hid (∀ u, TurnsP (At (.slice (some ⟨b, 0, none⟩) l.length l.length)) w (w1.setCell ⟨b, j, none⟩ u)) := fun u => (HT.out.trans (TurnsP.of_below hb1 (Nat.le_refl _))).setCell HAt.out u
      have HO1 : Hid (OwnRow (w1.setCell ⟨b, j, none⟩ (.string (markB (k + j)))) 9 1 16 StrO 0 0 (m.set j (markB (k + j))) (.slice (some ⟨b, 0, none⟩) l.length l.length)) := by
        obtain ⟨h2, h3, h8⟩ := HC.out
        have hml := HML.out
        have h2' := (h2.below hb1 hsz).set j (.string (markB (k + j)))
        have hgo := OwnRow.set (w := wr) (R := StrO) (R' := StrO) (n := 1) (wide := 16) (q0 := 0) (q1 := 0) (l := m) (c := c) (p := fun _ => 0) (i := j) (x := markB (k + j)) (cs' := [.string (markB (k + j))]) (by omega) (by rw [hml]; exact HW.out) h2' (by simp; rw [h3, hml]; simp) (Or.inr (Nat.zero_le _)) (Nat.le_refl _) (Nat.le_refl _) (fun _ _ => Nat.le_refl _)
          (fun q hq hne => by
            obtain ⟨cs, a1, a2, a3⟩ := h8 q hq
            refine ⟨cs, a1, fun r hr => ?_, a3⟩
            rw [← a2 r hr, Array.getElem?_setIfInBounds_ne (by omega)])
          ⟨rfl, fun r hr => by
            obtain rfl : r = 0 := by omega
            rw [Nat.mul_one, Nat.add_zero, Array.getElem?_setIfInBounds, if_pos rfl, if_pos (by omega)]
            rfl, rfl, markB_size _⟩
        rw [hml] at hgo
        exact hgo
      have hz1 : b < w1.heap.size := Nat.lt_of_lt_of_le hsz hb1.size
      clear hcall hb1 hx hf HT HC HAt
      go_wp2_with fail
      refine ⟨⟨j + 1, m.set j (markB (k + j)), by omega, by go_num, ?_, by rw [List.length_set]; exact HML.out, fun q hq hqj => ?_, HO1.out, HT1.out _⟩, by simp [intOf]; omega⟩
      · go_num
      · rw [List.length_set] at hq
        by_cases hqe : q = j
        · subst hqe; rw [List.getElem_set_self]
        · rw [List.getElem_set_ne (by omega)]; exact HM.out q hq (by omega)
    · obtain rfl : j = l.length := by omega
      go_wp2_with fail
      go_ret
      exact ⟨ret_int (by omega), m, HML.out, fun q hq => HM.out q hq (by have := HML.out; omega), HO.out, HT.out⟩

end Go.Proofs.Ytdaohfeajicamaa

namespace Go.Proofs.Ytdaohfeajicamaa
open Go.RowKit
set_option linter.unusedVariables false
set_option linter.unusedSimpArgs false

/-- What may turn of a list: its block, and what is within. -/
def FootL (v : Value) (q0 q1 : Nat) (x : Nat) : Prop := At v x ∨ (q0 ≤ x ∧ x < q1)
/-- Of a value: what lies from lo up to hi. -/
def FootV (lo hi : Nat) (x : Nat) : Prop := lo ≤ x ∧ x < hi

def MarkLC (f : Nat) : Prop := ∀ (l : List Vl) (v : Value) (q0 q1 k : Nat) (w : World), OwnRow w 29 5 80 (VlO w f) q0 q1 l v → q1 ≤ w.heap.size → 1 ≤ k → k + cntS (cntE f) l ≤ 99999990 →
  Calls Try.prog 39 #[v, .int .i64 (k : Int)] w fun e w' => e = .returned (.int .i64 ((k + cntS (cntE f) l : Nat) : Int)) ∧ ∃ l', l'.length = l.length ∧ cntS (cntE f) l' = cntS (cntE f) l ∧ MkL (MkE f) (cntE f) k l' ∧
    OwnRow w' 29 5 80 (VlO w' f) q0 q1 l' v ∧ TurnsP (FootL v q0 q1) w w'

/-- The list up to j marked, the rest as it was. -/
structure MixL (f k : Nat) (l m : List Vl) (j : Nat) : Prop where
  len : m.length = l.length
  rest : ∀ (q : Nat) (h : q < l.length) (h' : q < m.length), j ≤ q → m[q] = l[q]
  mark : ∀ (q : Nat) (h : q < m.length), q < j → MkE f (k + cntS (cntE f) (l.take q)) m[q]
  cnt : ∀ (q : Nat) (h : q < l.length) (h' : q < m.length), cntE f m[q] = cntE f l[q]

theorem MixL.start (f k : Nat) (l : List Vl) : MixL f k l l 0 := ⟨rfl, fun _ _ _ _ => rfl, fun _ _ h => absurd h (Nat.not_lt_zero _), fun _ _ _ => rfl⟩
theorem MixL.step {f k : Nat} {l m : List Vl} {j : Nat} (h : MixL f k l m j) {x : Vl} (hj : j < l.length) (hm : MkE f (k + cntS (cntE f) (l.take j)) x) (hc : cntE f x = cntE f l[j]) : MixL f k l (m.set j x) (j + 1) := by
  refine ⟨by rw [List.length_set]; exact h.len, fun q h1 h2 hq => ?_, fun q h1 hq => ?_, fun q h1 h2 => ?_⟩
  · rw [List.getElem_set_ne (by omega)]; exact h.rest q h1 (by have := h.len; omega) (by omega)
  · by_cases he : j = q
    · subst he; rw [List.getElem_set_self]; exact hm
    · rw [List.getElem_set_ne he]; exact h.mark q (by simpa using h1) (by omega)
  · by_cases he : j = q
    · subst he; rw [List.getElem_set_self]; exact hc
    · rw [List.getElem_set_ne he]; exact h.cnt q h1 (by simpa using h2)
theorem MixL.fin {f k : Nat} {l m : List Vl} (h : MixL f k l m l.length) : cntS (cntE f) m = cntS (cntE f) l ∧ MkL (MkE f) (cntE f) k m := by
  have hc : ∀ j, j ≤ l.length → cntS (cntE f) (m.take j) = cntS (cntE f) (l.take j) := fun j hj => cntS_take_congr _ h.len j hj (fun i h1 h2 _ => h.cnt i h1 h2)
  refine ⟨?_, fun i hi => ?_⟩
  · have := hc l.length (Nat.le_refl _)
    rw [List.take_length, ← h.len, List.take_length] at this
    exact this
  · rw [hc i (by have := h.len; omega)]
    exact h.mark i hi (by have := h.len; omega)

/-- One of it turned within its own interval, and in its own cells. -/
theorem OwnRow.turn {w w' : World} {f q0 q1 b : Nat} {m : List Vl} {c : Array Value} {p : Nat → Nat} {j : Nat} {x : Vl} {c0 c1 c2 c3 c4 : Value}
    (hj : j < m.length) (hw : m.length * 80 ≤ 140737488351232) (hO : Owns w b c 29) (hs : c.size = m.length * 5) (hb : b < q0 ∨ q1 ≤ b) (h5 : q0 ≤ p 0) (h6 : p m.length ≤ q1) (h7 : ∀ q, q < m.length → p q ≤ p (q + 1)) (hq : q1 ≤ w.heap.size)
    (h8 : ∀ (q : Nat) (h : q < m.length), ∃ cs, cs.length = 5 ∧ (∀ r, r < 5 → c[q * 5 + r]? = cs[r]?) ∧ VlO w f (p q) (p (q + 1)) m[q] cs)
    (hO' : Owns w' b (putAt c (j * 5) [c0, c1, c2, c3, c4]) 29) (hT : ∀ y, y < w.heap.size → y ≠ b → ¬ (p j ≤ y ∧ y < p (j + 1)) → w'.heap[y]? = w.heap[y]?)
    (hx : VlO w' f (p j) (p (j + 1)) x [c0, c1, c2, c3, c4]) : OwnRow w' 29 5 80 (VlO w' f) q0 q1 (m.set j x) (.slice (some ⟨b, 0, none⟩) m.length m.length) := by
  have hfit : j * 5 + 5 ≤ c.size := by omega
  refine OwnRow.set (w := w) (R := VlO w f) (c := c) (p := p) (i := j) (x := x) (cs' := [c0, c1, c2, c3, c4]) hj hw hO' (by rw [putAt_size, hs]) hb h5 h6 h7 (fun q hq' hne => ?_) ⟨rfl, fun r hr => ?_, hx⟩
  · obtain ⟨cs, a1, a2, a3⟩ := h8 q hq'
    refine ⟨cs, a1, fun r hr => ?_, VlO.same f _ _ _ _ (fun y y1 y2 => ?_) a3⟩
    · rw [putAt_out _ _ _ _ (by simp; omega), a2 r hr]
    · have z0 : p 0 ≤ p q := chain_le h7 (Nat.zero_le _) (by omega)
      have z1 : p (q + 1) ≤ p m.length := chain_le h7 (by omega) (Nat.le_refl _)
      refine hT y (by omega) (by omega) (fun hy => ?_)
      rcases Nat.lt_or_gt_of_ne hne with hlt | hgt
      · have := chain_le h7 (show q + 1 ≤ j by omega) (by omega); omega
      · have := chain_le h7 (show j + 1 ≤ q by omega) (by omega); omega
  · exact putAt_in _ _ _ r (by simpa using hr) (by simpa using hfit)

theorem set_same {c : Array Value} {i : Nat} {v : Value} (h : c[i]? = some v) : c.setIfInBounds i v = c := by
  apply Array.ext_getElem?
  intro q
  rw [Array.getElem?_setIfInBounds]
  split
  · rename_i he
    subst he
    split
    · exact h.symm
    · rename_i hn
      rw [Array.getElem?_eq_none (by omega)] at h
      simp at h
  · rfl
theorem put_five {c : Array Value} {i : Nat} {x0 x1 x2 x3 x4 : Value} (h3 : c[i + 3]? = some x3) (h4 : c[i + 4]? = some x4) : putAt c i [x0, x1, x2, x3, x4] = ((c.setIfInBounds i x0).setIfInBounds (i + 1) x1).setIfInBounds (i + 2) x2 := by
  show ((((c.setIfInBounds i x0).setIfInBounds (i + 1) x1).setIfInBounds (i + 2) x2).setIfInBounds (i + 3) x3).setIfInBounds (i + 4) x4 = _
  rw [set_same (i := i + 3)]
  · rw [set_same]
    rw [Array.getElem?_setIfInBounds_ne (by omega), Array.getElem?_setIfInBounds_ne (by omega), Array.getElem?_setIfInBounds_ne (by omega)]
    exact h4
  · rw [Array.getElem?_setIfInBounds_ne (by omega), Array.getElem?_setIfInBounds_ne (by omega), Array.getElem?_setIfInBounds_ne (by omega)]
    exact h3

set_option maxHeartbeats 4000000 in
theorem markL_step (f : Nat) (ih : ∀ g, f = g + 1 → MarkLC g) : MarkLC f := by
  intro l v q0 q1 k w hrow hq1 hk1 hk2
  obtain ⟨a, rfl, hw⟩ := hrow.len
  have hlen : (l.length : Int) ≤ 140737488351232 := by omega
  have hki : (k : Int) ≤ 99999990 := by omega
  have hk0 : (0 : Int) ≤ (k : Int) := by omega
  have HW : Hid (l.length * 80 ≤ 140737488351232) := hw
  clear hw
  obtain ⟨N, hN⟩ : ∃ N, l.length = N := ⟨_, rfl⟩
  have HN : Hid (l.length = N) := hN
  have HQ : Hid (q1 ≤ w.heap.size) := hq1
  have HK2 : Hid (k + cntS (cntE f) l ≤ 99999990) := hk2
  have HROW : Hid (OwnRow w 29 5 80 (VlO w f) q0 q1 l (.slice a N N)) := by show OwnRow _ _ _ _ _ _ _ _ _; rw [← hN]; exact hrow
  rw [hN] at hlen ⊢
  clear hN hq1 hk2 hrow
  go_enter Try.func39, Try.ntmps39
  go_wp2_with fail
  go_loopw [1, 5] (fun n i wr => ∃ (j kj : Nat) (m : List Vl), j ≤ N ∧ i = .int .i64 j ∧ n = .int .i64 (kj : Int) ∧ Hid (kj = k + cntS (cntE f) (l.take j)) ∧ Hid (MixL f k l m j) ∧ Hid (OwnRow wr 29 5 80 (VlO wr f) q0 q1 m (.slice a N N)) ∧ Hid (TurnsP (FootL (.slice a N N) q0 q1) w wr)) (fun _ i _ => N - (intOf i).toNat)
  case atStart => exact ⟨0, k, l, Nat.zero_le _, rfl, rfl, (by show k = k + cntS _ (l.take 0); simp [cntS]), MixL.start _ _ _, HROW.out, TurnsP.refl _ _⟩
  case round =>
    obtain ⟨j, kj, m, hj, rfl, rfl, HKJ, HM, HO, HT⟩ := hrel
    have hkb : kj ≤ 99999990 := by have := HKJ.out; have := HK2.out; have := cntS_take_le (cntE f) l j; omega
    have hkl : 1 ≤ kj := by have := HKJ.out; omega
    have hkji : (kj : Int) ≤ 99999990 := by omega
    have hkj0 : (0 : Int) ≤ (kj : Int) := by omega
    by_cases hlt : j < N
    · rcases HO.out with ⟨h0, _⟩ | ⟨b, c, p, hv, h1, h2, h3, h4, h5, h6, h7, h8⟩
      · have := HM.out.len; have := HN.out; rw [h0] at *; simp at *; omega
      have hml : m.length = N := HM.out.len.trans HN.out
      simp only [Value.slice.injEq] at hv
      obtain ⟨rfl, -, -⟩ := hv
      have hjm : j < m.length := by omega
      have hjl : j < l.length := by have := HN.out; omega
      have hjc : j * 5 + 5 ≤ c.size := by omega
      obtain ⟨cs, hcl, hcc, hV⟩ := h8 j hjm
      obtain ⟨g, rfl⟩ : ∃ g, f = g + 1 := by
        cases f with
        | zero => exact hV.elim
        | succ g => exact ⟨g, rfl⟩
      have hIH := ih g rfl
      clear ih
      have hV' := hV
      obtain ⟨vl, vn, r0, r1, rfl, _, _, _, hr0, hr1, hL, hNm, hAl, hAn⟩ := hV'
      obtain ⟨al, rfl, _⟩ := hL.len
      obtain ⟨an, rfl, _⟩ := hNm.len
      have e0 : wr.cell? ⟨b, j * 5, none⟩ = some (.int .i64 m[j].kind) := by rw [h2.cell]; exact hcc 0 (by omega)
      have e1 : wr.cell? ⟨b, j * 5 + 1, none⟩ = some (.int .i64 m[j].num) := by rw [h2.cell]; exact hcc 1 (by omega)
      have e2 : wr.cell? ⟨b, j * 5 + 2, none⟩ = some (.string m[j].text) := by rw [h2.cell]; exact hcc 2 (by omega)
      have e3 : wr.cell? ⟨b, j * 5 + 3, none⟩ = some (.slice al m[j].list.length m[j].list.length) := by rw [h2.cell]; exact hcc 3 (by omega)
      have e4 : wr.cell? ⟨b, j * 5 + 4, none⟩ = some (.slice an m[j].names.length m[j].names.length) := by rw [h2.cell]; exact hcc 4 (by omega)
      have ef := fun o => h2.frozen o
      have hsz := h2.lt
      have hx : m[j] = l[j] := HM.out.rest j hjl hjm (Nat.le_refl _)
      have hcE : cntE (g + 1) m[j] = 3 + cntS (cntE g) m[j].list + m[j].names.length := rfl
      have hkn : kj + cntE (g + 1) m[j] ≤ 99999990 := by
        have h1 := HKJ.out; have h2 := HK2.out
        have h3 := cntS_take_le (cntE (g + 1)) l (j + 1)
        rw [cntS_snoc _ hjl, ← hx] at h3
        omega
      have hqw : q1 ≤ wr.heap.size := Nat.le_trans HQ.out HT.out.size
      have hpj : q0 ≤ p j ∧ p (j + 1) ≤ q1 := ⟨Nat.le_trans h5 (chain_le h7 (Nat.zero_le _) (by omega)), Nat.le_trans (chain_le h7 (by omega) (Nat.le_refl _)) h6⟩
      have hbp : ¬ (p j ≤ b ∧ b < p (j + 1)) := by omega
      have HALL : Hid (∀ (w' : World) (x : Vl) (c0 c1 c2 c3 c4 : Value), Owns w' b (putAt c (j * 5) [c0, c1, c2, c3, c4]) 29 → (∀ y, y < wr.heap.size → y ≠ b → ¬ (p j ≤ y ∧ y < p (j + 1)) → w'.heap[y]? = wr.heap[y]?) →
          VlO w' (g + 1) (p j) (p (j + 1)) x [c0, c1, c2, c3, c4] → OwnRow w' 29 5 80 (VlO w' (g + 1)) q0 q1 (m.set j x) (.slice (some ⟨b, 0, none⟩) N N)) := fun w' x c0 c1 c2 c3 c4 a1 a2 a3 => by
        have := OwnRow.turn hjm h1 h2 h3 h4 h5 h6 h7 hqw h8 a1 a2 a3
        rw [hml] at this
        exact this
      have HOw : Hid (Owns wr b c 29) := h2
      have HL : Hid (OwnRow wr 29 5 80 (VlO wr g) r0 r1 m[j].list (.slice al m[j].list.length m[j].list.length)) := hL
      have HNm : Hid (OwnRow wr 9 1 16 StrO 0 0 m[j].names (.slice an m[j].names.length m[j].names.length)) := hNm
      have HAl : Hid _ := hAl
      have HAn : Hid _ := hAn
      have HKN : Hid (kj + 3 + cntS (cntE g) m[j].list + m[j].names.length ≤ 99999990) := by show _ ≤ _; omega
      have HX : Hid (m[j] = l[j]) := hx
      have HC5 : Hid (∀ q, q < 5 → c[j * 5 + q]? = [Value.int .i64 m[j].kind, .int .i64 m[j].num, .string m[j].text, .slice al m[j].list.length m[j].list.length, .slice an m[j].names.length m[j].names.length][q]?) := hcc
      clear h1 h2 h3 h4 h5 h6 h7 h8 hL hNm hAl hAn hV hx hcE hkn hcc HO
      generalize hnl : m[j].list.length = nl at *
      generalize hnn : m[j].names.length = nn at *
      have hnl' : (nl : Int) ≤ 140737488351232 := by obtain ⟨_, _, h⟩ := HL.out.len; rw [hnl] at h; omega
      have HNL : Hid (m[j].list.length = nl) := hnl
      have HNN : Hid (m[j].names.length = nn) := hnn
      clear hnl hnn
      go_wp2_with fail
      have ek2 : ((kj + 2 : Nat) : Int) = (kj : Int) + 1 + 1 := by omega
      have hcall := markText_any (kj + 2) ((wr.setCell ⟨b, j * 5, none⟩ (.int .i64 (kj : Int))).setCell ⟨b, j * 5 + 1, none⟩ (.int .i64 ((kj : Int) + 1))) (by omega) (by omega)
      rw [ek2] at hcall
      refine hcall.mono ?_
      rintro e w1 ⟨rfl, hb1⟩
      have hO1 : Owns w1 b ((c.setIfInBounds (j * 5) (.int .i64 (kj : Int))).setIfInBounds (j * 5 + 1) (.int .i64 ((kj : Int) + 1))) 29 := ((HOw.out.set _ _).set _ _).below hb1 (by simpa [World.setCell] using hsz)
      have d2 : w1.cell? ⟨b, j * 5 + 2, none⟩ = some (.string m[j].text) := by
        rw [hO1.cell, Array.getElem?_setIfInBounds_ne (by omega), Array.getElem?_setIfInBounds_ne (by omega)]; exact HC5.out 2 (by omega)
      have d3 : w1.cell? ⟨b, j * 5 + 3, none⟩ = some (.slice al nl nl) := by
        rw [hO1.cell, Array.getElem?_setIfInBounds_ne (by omega), Array.getElem?_setIfInBounds_ne (by omega)]; exact HC5.out 3 (by omega)
      have d4 : w1.cell? ⟨b, j * 5 + 4, none⟩ = some (.slice an nn nn) := by
        rw [hO1.cell, Array.getElem?_setIfInBounds_ne (by omega), Array.getElem?_setIfInBounds_ne (by omega)]; exact HC5.out 4 (by omega)
      have df := fun o => hO1.frozen o
      have hsz1 : wr.heap.size ≤ w1.heap.size := by have := hb1.size; simpa [World.setCell] using this
      have hz1 : b < w1.heap.size := by omega
      have HS4 : Hid (∀ y, y < wr.heap.size → y ≠ b → (w1.setCell ⟨b, j * 5 + 2, none⟩ (.string (markB (kj + 2)))).heap[y]? = wr.heap[y]?) := fun y hy hne => by
        rw [Below.heap_setCell _ _ _ _ hne, hb1.block y (by simpa [World.setCell] using hy), Below.heap_setCell _ _ _ _ hne, Below.heap_setCell _ _ _ _ hne]
      have HO4 : Hid (Owns (w1.setCell ⟨b, j * 5 + 2, none⟩ (.string (markB (kj + 2)))) b (putAt c (j * 5) [.int .i64 (kj : Int), .int .i64 ((kj : Int) + 1), .string (markB (kj + 2)), .slice al nl nl, .slice an nn nn]) 29) := by
        show Owns _ _ _ _
        rw [put_five (HC5.out 3 (by omega)) (HC5.out 4 (by omega))]
        exact hO1.set _ _
      have HT4 : Hid (TurnsP (FootL (.slice (some ⟨b, 0, none⟩) N N) q0 q1) w (w1.setCell ⟨b, j * 5 + 2, none⟩ (.string (markB (kj + 2))))) :=
        ((((HT.out.setCell (Or.inl (At.mk _ _ _)) _).setCell (Or.inl (At.mk _ _ _)) _).trans (TurnsP.of_below hb1 (Nat.le_refl _))).setCell (Or.inl (At.mk _ _ _)) _)
      clear hcall hb1 hO1 e0 e1 e2 e3 e4 ef HT ek2
      go_wp2_with fail
      have hL4 : OwnRow (w1.setCell ⟨b, j * 5 + 2, none⟩ (.string (markB (kj + 2)))) 29 5 80 (VlO (w1.setCell ⟨b, j * 5 + 2, none⟩ (.string (markB (kj + 2)))) g) r0 r1 m[j].list (.slice al nl nl) :=
        HL.out.same (fun y hy => HS4.out y (by have := HAl.out y hy; omega) (by have := HAl.out y hy; omega)) (fun a b' x cs ha hb hx => VlO.same g a b' x cs (fun y h1 h2 => HS4.out y (by omega) (by omega)) hx)
      have hcall := hIH m[j].list (.slice al nl nl) r0 r1 (kj + 3) _ hL4 (by simp [World.setCell]; omega) (by omega) (by have := HKN.out; omega)
      have ek3 : ((kj + 3 : Nat) : Int) = (kj : Int) + 1 + 1 + 1 := by omega
      rw [ek3] at hcall
      refine hcall.mono ?_
      rintro e w2 ⟨rfl, l2, hl2, hc2, hM2, hO2, hT2⟩
      obtain ⟨k2, hk2⟩ : ∃ k2, kj + 3 + cntS (cntE g) m[j].list = k2 := ⟨_, rfl⟩
      have HK2' : Hid (kj + 3 + cntS (cntE g) m[j].list = k2) := hk2
      rw [hk2]
      have hk2b : k2 + nn ≤ 99999990 := by have := HKN.out; have := HNN.out; omega
      have hsz2 := hT2.size
      have hbF : ∀ y, FootL (.slice al nl nl) r0 r1 y → p j ≤ y ∧ y < p (j + 1) := fun y hy => by
        rcases hy with hy | hy
        · exact HAl.out y hy
        · omega
      have hO5 : Owns w2 b (putAt c (j * 5) [.int .i64 (kj : Int), .int .i64 ((kj : Int) + 1), .string (markB (kj + 2)), .slice al nl nl, .slice an nn nn]) 29 := HO4.out.same (hT2.block b HO4.out.lt (fun h => hbp (hbF b h)))
      have hN5 : OwnRow w2 9 1 16 StrO 0 0 m[j].names (.slice an nn nn) := StrO.row_same HNm.out (fun y hy => by
        obtain ⟨y1, y2, y3, y4⟩ := HAn.out y hy
        rw [hT2.block y (by simp [World.setCell]; omega) (fun h => by rcases h with h | h; exact y4 h; omega), HS4.out y (by omega) (by omega)])
      have f4 : w2.cell? ⟨b, j * 5 + 4, none⟩ = some (.slice an nn nn) := by rw [hO5.cell]; exact putAt_in _ _ _ 4 (by simp) (by simpa using hjc)
      have HO5 : Hid (Owns w2 b (putAt c (j * 5) [.int .i64 (kj : Int), .int .i64 ((kj : Int) + 1), .string (markB (kj + 2)), .slice al nl nl, .slice an nn nn]) 29) := hO5
      have HN5 : Hid _ := hN5
      have HT5 : Hid (TurnsP (FootL (.slice (some ⟨b, 0, none⟩) N N) q0 q1) w w2) := HT4.out.trans (hT2.mono (fun y hy => Or.inr (by have := hbF y hy; omega)))
      have HS5 : Hid (∀ y, y < wr.heap.size → y ≠ b → ¬ (p j ≤ y ∧ y < p (j + 1)) → w2.heap[y]? = wr.heap[y]?) := fun y h1 h2 h3 => by
        rw [hT2.block y (by simp [World.setCell]; omega) (fun h => h3 (hbF y h)), HS4.out y h1 h2]
      have HM2 : Hid _ := hM2
      have HO2 : Hid _ := hO2
      have HL2 : Hid _ := hl2
      have HC2 : Hid _ := hc2
      have hk2i : (k2 : Int) ≤ 99999990 := by omega
      have hszw : wr.heap.size ≤ w2.heap.size := by simp [World.setCell] at hsz2; omega
      clear hcall ek3 hT2 hO5 hN5 hM2 hO2 hl2 hc2 hL4 HO4 HT4 d2 d3 d4 df HL HNm hbF hk2 hsz2 HS4
      go_wp2_with fail
      refine (markStringS_any m[j].names _ k2 _ HN5.out (by have := HK2'.out; omega) (by have := HNN.out; omega)).mono ?_
      rintro e w3 ⟨rfl, n3, hl3, hM3, hO3, hT3⟩
      rw [HNN.out]
      have hnn0 : (nn : Int) ≤ 99999990 := by omega
      have hbA : ∀ y, At (.slice an nn nn) y → p j ≤ y ∧ y < p (j + 1) := fun y hy => ⟨(HAn.out y hy).1, (HAn.out y hy).2.1⟩
      have HV : Hid (VlO w3 (g + 1) (p j) (p (j + 1)) ⟨(kj : Int), (kj : Int) + 1, markB (kj + 2), l2, n3⟩ [.int .i64 (kj : Int), .int .i64 ((kj : Int) + 1), .string (markB (kj + 2)), .slice al nl nl, .slice an nn nn]) := by
        refine ⟨_, _, r0, r1, rfl, ⟨by show (-9223372036854775808 : Int) ≤ (kj : Int); omega, by show (kj : Int) ≤ 9223372036854775807; omega⟩, ⟨by show (-9223372036854775808 : Int) ≤ (kj : Int) + 1; omega, by show (kj : Int) + 1 ≤ 9223372036854775807; omega⟩, markB_size _, hr0, hr1, ?_, hO3, HAl.out, HAn.out⟩
        refine OwnRow.same HO2.out (fun y hy => hT3.block y ?_ (fun h => (HAn.out y h).2.2.2 hy)) (fun a b' x cs ha hb hx => VlO.same g a b' x cs (fun y h1 h2 => hT3.block y (by omega) (fun h => by have := (HAn.out y h).2.2.1; omega)) hx)
        have := HAl.out y hy
        omega
      have HO6 : Hid _ := HALL.out w3 _ _ _ _ _ _ (HO5.out.same (hT3.block b HO5.out.lt (fun h => hbp (hbA b h)))) (fun y h1 h2 h3 => by rw [hT3.block y (by omega) (fun h => h3 (hbA y h)), HS5.out y h1 h2 h3]) HV.out
      have HT6 : Hid (TurnsP (FootL (.slice (some ⟨b, 0, none⟩) N N) q0 q1) w w3) := HT5.out.trans (hT3.mono (fun y hy => Or.inr (by have := hbA y hy; omega)))
      have HM6 : Hid (MixL (g + 1) k l (m.set j ⟨(kj : Int), (kj : Int) + 1, markB (kj + 2), l2, n3⟩) (j + 1)) := by
        refine HM.out.step hjl ?_ ?_
        · rw [← HKJ.out]
          refine ⟨rfl, rfl, rfl, HM2.out, ?_⟩
          show MkN (kj + 3 + cntS (cntE g) l2) n3
          rw [HC2.out, HK2'.out]
          exact hM3
        · rw [← HX.out]
          show 3 + cntS (cntE g) l2 + n3.length = 3 + cntS (cntE g) m[j].list + m[j].names.length
          rw [HC2.out, hl3]
      have HKJ6 : Hid (k2 + nn = k + cntS (cntE (g + 1)) (l.take (j + 1))) := by
        show _ = _
        rw [cntS_snoc _ hjl, ← HX.out, ← Nat.add_assoc, ← HKJ.out]
        show _ = kj + (3 + cntS (cntE g) m[j].list + m[j].names.length)
        rw [← HK2'.out, HNN.out]
        omega
      clear hM3 hO3 hT3 HO5 HN5 HT5 HS5 HM2 HO2 HALL HV f4
      go_wp2_with fail
      exact ⟨⟨j + 1, k2 + nn, _, by omega, by go_num, rfl, HKJ6, HM6, HO6, HT6⟩, by simp [intOf]; omega⟩
    · obtain rfl : j = N := by omega
      go_wp2_with fail
      go_ret
      have hn := HN.out
      have hm := HM.out
      rw [← hn] at hm
      refine ⟨ret_int ?_, m, hm.len.trans hn, (MixL.fin hm).1, (MixL.fin hm).2, HO.out, HT.out⟩
      rw [HKJ.out, ← hn, List.take_length]

set_option maxHeartbeats 1000000 in
theorem markValue_any (f lo hi k : Nat) (t : Vl) (x0 x1 x2 vl vn : Value) (w : World) (ht : VlO w (f + 1) lo hi t [x0, x1, x2, vl, vn]) (hh : hi ≤ w.heap.size) (hk1 : 1 ≤ k) (hk2 : k + cntS (cntE f) t.list + t.names.length ≤ 99999990) (hall : MarkLC f) :
    Calls Try.prog 14 #[.agg #[x0, x1, x2, vl, vn], .int .i64 (k : Int)] w fun e w' => e = .returned (.int .i64 ((k + cntS (cntE f) t.list + t.names.length : Nat) : Int)) ∧ ∃ l' n', l'.length = t.list.length ∧ n'.length = t.names.length ∧ cntS (cntE f) l' = cntS (cntE f) t.list ∧
      MkL (MkE f) (cntE f) k l' ∧ MkN (k + cntS (cntE f) t.list) n' ∧ VlO w' (f + 1) lo hi ⟨t.kind, t.num, t.text, l', n'⟩ [x0, x1, x2, vl, vn] ∧ TurnsP (FootV lo hi) w w' := by
  obtain ⟨vl', vn', q0, q1, hcs, h1, h2, h3, h4, h5, hL, hN, hAl, hAn⟩ := ht
  simp only [List.cons.injEq, and_true] at hcs
  obtain ⟨rfl, rfl, rfl, rfl, rfl⟩ := hcs
  obtain ⟨al, rfl, _⟩ := hL.len
  obtain ⟨an, rfl, _⟩ := hN.len
  have HL : Hid (∀ W, (∀ b, b < w.heap.size → W.heap[b]? = w.heap[b]?) → OwnRow W 29 5 80 (VlO W f) q0 q1 t.list (.slice al t.list.length t.list.length)) := fun W h => hL.same (fun b hb => h b (by have := hAl b hb; omega)) (fun a b x cs ha hb hx => VlO.same f a b x cs (fun y y1 y2 => h y (by omega)) hx)
  have HN : Hid (∀ W, (∀ b, At (.slice an t.names.length t.names.length) b → W.heap[b]? = w.heap[b]?) → OwnRow W 9 1 16 StrO 0 0 t.names (.slice an t.names.length t.names.length)) := fun W h => StrO.row_same hN h
  have HAl : Hid _ := hAl
  have HAn : Hid _ := hAn
  have HA : Hid (hi ≤ w.heap.size ∧ lo ≤ q0 ∧ q1 ≤ hi) := ⟨hh, h4, h5⟩
  have HK : Hid _ := hk2
  clear hL hN hAl hAn hh h4 h5 hk2
  go_enter Try.func14, Try.ntmps14
  go_wp2_with fail
  refine (hall t.list _ q0 q1 k _ (HL.out _ (fun b hb => Below.heap_alloc _ _ _ hb)) (by have := HA.out; simp; omega) hk1 (by have := HK.out; omega)).mono ?_
  rintro e w1 ⟨rfl, l', hl, hc, hM, hO, hT⟩
  have hbox : w1.heap[w.heap.size]? = (w.alloc (.cells #[.int .i64 t.kind, .int .i64 t.num, .string t.text, .slice al t.list.length t.list.length, .slice an t.names.length t.names.length] 29)).heap[w.heap.size]? := hT.block _ (by simp) (fun h => by
    have := HA.out
    rcases h with h | h
    · have := HAl.out _ h; omega
    · omega)
  have hOb : Owns w1 w.heap.size #[.int .i64 t.kind, .int .i64 t.num, .string t.text, .slice al t.list.length t.list.length, .slice an t.names.length t.names.length] 29 := (Owns.made w _ _).same hbox
  have b4 : w1.cell? ⟨w.heap.size, 4, none⟩ = some (.slice an t.names.length t.names.length) := by rw [hOb.cell]; rfl
  have HN1 : Hid (OwnRow w1 9 1 16 StrO 0 0 t.names (.slice an t.names.length t.names.length)) := HN.out _ (fun b hb => by
    obtain ⟨y1, y2, y3, y4⟩ := HAn.out b hb
    have := HA.out
    rw [hT.block b (by simp; omega) (fun h => by rcases h with h | h; exact y4 h; omega), Below.heap_alloc _ _ _ (by omega)])
  have HT1 : Hid (TurnsP (FootV lo hi) w w1) := (TurnsP.of_below ((Below.refl _ _).alloc (Nat.le_refl _) _) (Nat.le_refl _)).trans (hT.mono (fun y hy => by
    have := HA.out
    rcases hy with hy | hy
    · have := HAl.out y hy; exact ⟨by omega, by omega⟩
    · exact ⟨by omega, by omega⟩))
  have HM : Hid _ := hM
  have HO : Hid (OwnRow w1 29 5 80 (VlO w1 f) q0 q1 l' (.slice al t.list.length t.list.length)) := hO
  have HX : Hid (l'.length = t.list.length ∧ cntS (cntE f) l' = cntS (cntE f) t.list) := ⟨hl, hc⟩
  have hz : w.heap.size < w1.heap.size := cell_lt b4
  obtain ⟨k2, hk2⟩ : ∃ k2, k + cntS (cntE f) t.list = k2 := ⟨_, rfl⟩
  have HK2 : Hid (k + cntS (cntE f) t.list = k2) := hk2
  rw [hk2]
  clear hM hO hT hl hc hbox hOb hk2
  go_wp2_with fail
  refine (markStringS_any t.names _ k2 _ HN1.out (by have := HK2.out; omega) (by have := HK2.out; have := HK.out; omega)).mono ?_
  rintro e w2 ⟨rfl, n', hl2, hM2, hO2, hT2⟩
  have HV : Hid (VlO w2 (f + 1) lo hi ⟨t.kind, t.num, t.text, l', n'⟩ [.int .i64 t.kind, .int .i64 t.num, .string t.text, .slice al t.list.length t.list.length, .slice an t.names.length t.names.length]) := by
    refine ⟨_, _, q0, q1, rfl, h1, h2, h3, HA.out.2.1, HA.out.2.2, ?_, hO2, HAl.out, HAn.out⟩
    refine OwnRow.same HO.out (fun y hy => hT2.block y ?_ (fun h => (HAn.out y h).2.2.2 hy)) (fun a b' x cs ha hb hx => VlO.same f a b' x cs (fun y h1 h2 => hT2.block y (by have := HA.out; omega) (fun h => by have := (HAn.out y h).2.2.1; omega)) hx)
    have := HAl.out y hy
    have := HA.out
    omega
  have HT3 : Hid (TurnsP (FootV lo hi) w w2) := HT1.out.trans (hT2.mono (fun y hy => ⟨(HAn.out y hy).1, (HAn.out y hy).2.1⟩))
  have HM2 : Hid _ := hM2
  have HL2 : Hid _ := hl2
  clear hM2 hO2 hT2 hl2
  obtain ⟨k3, hk3⟩ : ∃ k3, k2 + t.names.length = k3 := ⟨_, rfl⟩
  have HK3 : Hid (k2 + t.names.length = k3) := hk3
  rw [hk3]
  clear hk3
  go_wp2_with fail
  go_ret
  refine ⟨ret_int (by rw [← HK3.out, ← HK2.out]), l', n', HX.out.1, HL2.out, HX.out.2, HM.out, (by rw [HK2.out]; exact HM2.out), HV.out, HT3.out⟩

theorem markL_all : ∀ f : Nat, MarkLC f
  | 0 => markL_step 0 (fun g h => by omega)
  | f + 1 => markL_step (f + 1) (fun g h => by obtain rfl : f = g := by omega
                                               exact markL_all f)

end Go.Proofs.Ytdaohfeajicamaa

namespace Go.Proofs.Ytdaohfeajicamaa
open Go.RowKit
set_option linter.unusedVariables false
set_option linter.unusedSimpArgs false

theorem beq_refl_bytes (s : ByteArray) : (s.toList == s.toList) = true := by simp

theorem markText_at (k j : Nat) (w : World) (h1 : 1 ≤ k + j) (h2 : k + j ≤ 99999999) :
    Calls Try.prog 64 #[.int .i64 ((k : Int) + (j : Int))] w fun e w' => e = .returned (.string (markB (k + j))) ∧ Below w.heap.size w w' := by
  have h := markText_any (k + j) w h1 h2
  have ek : ((k + j : Nat) : Int) = (k : Int) + (j : Int) := by omega
  rw [ek] at h
  exact h

set_option maxHeartbeats 2000000 in
theorem heldStringS_any (l : List ByteArray) (v : Value) (k : Nat) (w : World) (hrow : StrRow w 0 l v) (hM : MkN k l) (hk1 : 1 ≤ k) (hk2 : k + l.length ≤ 99999990) :
    Calls Try.prog 42 #[v, .int .i64 (k : Int)] w fun e w' => e = .returned (.int .i64 ((k + l.length : Nat) : Int)) ∧ Below w.heap.size w w' := by
  obtain ⟨a, cap, rfl, hw, hrest⟩ := hrow.len
  have hlen : (l.length : Int) ≤ 99999990 := by omega
  have hki : (k : Int) ≤ 99999990 := by omega
  have hk0 : (0 : Int) ≤ (k : Int) := by omega
  have HM : Hid (MkN k l) := hM
  clear hrow hw hM
  go_enter Try.func42, Try.ntmps42
  go_wp2_with fail
  go_loopw [1, 5] (fun n i wr => ∃ j : Nat, j ≤ l.length ∧ i = .int .i64 j ∧ n = .int .i64 ((k : Int) + (j : Int)) ∧ Hid (Below w.heap.size w wr)) (fun _ i _ => l.length - (intOf i).toNat)
  case atStart => exact ⟨0, Nat.zero_le _, rfl, by simp, Below.refl _ _⟩
  case round =>
    obtain ⟨j, hj, rfl, rfl, HB⟩ := hrel
    have hji : (j : Int) ≤ 99999990 := by omega
    have hj0 : (0 : Int) ≤ (j : Int) := by omega
    by_cases hlt : j < l.length
    · obtain ⟨b, off, rfl, _, hcs⟩ := hrest (List.ne_nil_of_length_pos (by omega))
      obtain ⟨c0, hs⟩ := hcs j hlt
      have c1 : wr.cell? ⟨b, off + j, none⟩ = some (.string (markB (k + j))) := by
        rw [← HM.out j hlt]; exact (Keeps.of_below HB.out (Nat.le_refl _) 0).cell (Nat.zero_le _) c0
      have ek : ((k + j : Nat) : Int) = (k : Int) + (j : Int) := by omega
      have hbq := beq_refl_bytes (markB (k + j))
      clear hcs hrest c0
      go_wp2_with fail
      go_region_with (go_at_call 64; refine (markText_at k j _ (by omega) (by omega)).mono ?_; rintro e w1 ⟨rfl, hb1⟩; have y0 := cell_on (W := wr.drew) hb1 c1; have HB1 : Hid _ := hb1; clear hb1)
      all_goals
        have HB2 : Hid (Below w.heap.size w w1) := HB.out.drew.trans (Below.mono HB1.out HB.out.size)
        go_wp2_with fail
        exact ⟨⟨j + 1, by omega, by go_num, by go_num, HB2⟩, by simp [intOf]; omega⟩
    · obtain rfl : j = l.length := by omega
      go_wp2_with fail
      go_ret
      exact ⟨ret_int (by omega), HB.out⟩

theorem markText_two (k : Nat) (w : World) (h2 : k + 2 ≤ 99999999) :
    Calls Try.prog 64 #[.int .i64 ((k : Int) + 1 + 1)] w fun e w' => e = .returned (.string (markB (k + 2))) ∧ Below w.heap.size w w' := by
  have h := markText_any (k + 2) w (by omega) h2
  have ek : ((k + 2 : Nat) : Int) = (k : Int) + 1 + 1 := by omega
  rw [ek] at h
  exact h

def HeldLC (f : Nat) : Prop := ∀ (l : List Vl) (v : Value) (k : Nat) (w : World), Row w 0 5 80 (VlR w 0 f) l v → MkL (MkE f) (cntE f) k l → 1 ≤ k → k + cntS (cntE f) l ≤ 99999990 →
  Calls Try.prog 41 #[v, .int .i64 (k : Int)] w fun e w' => e = .returned (.int .i64 ((k + cntS (cntE f) l : Nat) : Int)) ∧ Below w.heap.size w w'

set_option maxHeartbeats 4000000 in
theorem heldL_step (f : Nat) (ih : ∀ g, f = g + 1 → HeldLC g) : HeldLC f := by
  intro l v k w hrow hM hk1 hk2
  obtain ⟨a, cap, rfl, hw, hrest⟩ := hrow.len
  have hlen : (l.length : Int) ≤ 140737488351232 := by omega
  have hki : (k : Int) ≤ 99999990 := by omega
  have hk0 : (0 : Int) ≤ (k : Int) := by omega
  have HM : Hid (MkL (MkE f) (cntE f) k l) := hM
  have HK2 : Hid (k + cntS (cntE f) l ≤ 99999990) := hk2
  clear hrow hw hM hk2
  go_enter Try.func41, Try.ntmps41
  go_wp2_with fail
  go_loopw [1, 5] (fun n i wr => ∃ j kj : Nat, j ≤ l.length ∧ i = .int .i64 j ∧ n = .int .i64 (kj : Int) ∧ Hid (kj = k + cntS (cntE f) (l.take j)) ∧ Hid (Below w.heap.size w wr)) (fun _ i _ => l.length - (intOf i).toNat)
  case atStart => exact ⟨0, k, Nat.zero_le _, rfl, rfl, (by show k = k + cntS _ (l.take 0); simp [cntS]), Below.refl _ _⟩
  case round =>
    obtain ⟨j, kj, hj, rfl, rfl, HKJ, HB⟩ := hrel
    have hkb : kj ≤ 99999990 := by have := HKJ.out; have := HK2.out; have := cntS_take_le (cntE f) l j; omega
    have hkl : 1 ≤ kj := by have := HKJ.out; omega
    have hkji : (kj : Int) ≤ 99999990 := by omega
    have hkj0 : (0 : Int) ≤ (kj : Int) := by omega
    by_cases hlt : j < l.length
    · obtain ⟨b, off, rfl, _, hcs⟩ := hrest (List.ne_nil_of_length_pos (by omega))
      obtain ⟨cs, hl5, hc, hR⟩ := hcs j hlt
      obtain ⟨g, rfl⟩ : ∃ g, f = g + 1 := by
        cases f with
        | zero => exact hR.elim
        | succ g => exact ⟨g, rfl⟩
      have hIH := ih g rfl
      clear ih
      obtain ⟨p, n, p', n', rfl⟩ := hR.cells
      have hmk := HM.out j hlt
      rw [← HKJ.out] at hmk
      obtain ⟨m1, m2, m3, m4, m5⟩ := hmk
      have hk : Keeps 0 w wr := Keeps.of_below HB.out (Nat.le_refl _) _
      obtain ⟨c0, c1, c2, c3, c4⟩ := (hc.keeps hk (Nat.zero_le _)).five
      rw [m1] at c0
      rw [m2] at c1
      rw [m3] at c2
      have hR' := VlR.keeps hk _ _ _ hR
      obtain ⟨vl', vn', hv, _, _, _, hrow, hnames⟩ := hR'
      simp only [List.cons.injEq, true_and, and_true] at hv
      obtain ⟨rfl, rfl⟩ := hv
      have HR : Hid (∀ W, Keeps 0 wr W → Row W 0 5 80 (VlR W 0 g) l[j].list (.slice p l[j].list.length n)) := fun W h => VlRow.keeps h hrow
      have HN : Hid (∀ W, Keeps 0 wr W → StrRow W 0 l[j].names (.slice p' l[j].names.length n')) := fun W h => hnames.keeps h
      have HM4 : Hid (MkL (MkE g) (cntE g) (kj + 3) l[j].list) := m4
      have HM5 : Hid (MkN (kj + 3 + cntS (cntE g) l[j].list) l[j].names) := m5
      have HKN : Hid (kj + (3 + cntS (cntE g) l[j].list + l[j].names.length) = k + cntS (cntE (g + 1)) (l.take (j + 1)) ∧ k + cntS (cntE (g + 1)) (l.take (j + 1)) ≤ 99999990) := by
        have h1 := HKJ.out; have h2 := HK2.out
        have h3 := cntS_take_le (cntE (g + 1)) l (j + 1)
        have h4 := cntS_snoc (cntE (g + 1)) hlt
        have h5 : cntE (g + 1) l[j] = 3 + cntS (cntE g) l[j].list + l[j].names.length := rfl
        refine ⟨?_, by omega⟩
        omega
      generalize hnl : l[j].list.length = nl at *
      generalize hnn : l[j].names.length = nn at *
      have hkn : kj + 3 + nn ≤ 99999990 := by have := HKN.out; omega
      have HNN : Hid (l[j].names.length = nn) := hnn
      have HNL : Hid (l[j].list.length = nl) := hnl
      have hbq := beq_refl_bytes (markB (kj + 2))
      clear hc hR hcs hrest hrow hnames m1 m2 m3 m4 m5 hk hnl hnn hl5 HM
      go_wp2_with fail
      go_region_with (go_at_call 64; refine (markText_two kj _ (by omega)).mono ?_; rintro e w1 ⟨rfl, hb1⟩; have y2 := cell_on (W := wr.drew) hb1 c2; have HB1 : Hid _ := hb1; clear hb1)
      all_goals
        have y3 := cell_on (W := wr.drew) HB1.out c3
        have y4 := cell_on (W := wr.drew) HB1.out c4
        have HB2 : Hid (Below w.heap.size w w1) := HB.out.drew.trans (Below.mono HB1.out HB.out.size)
        have HKE : Hid (Keeps 0 wr w1) := (Keeps.refl _ _).drew.trans (Keeps.of_below HB1.out (Nat.le_refl _) _)
        go_wp2_with fail
        have hcall := hIH l[j].list _ (kj + 3) _ (HR.out _ HKE.out) HM4.out (by omega) (by have := HKN.out; omega)
        have ek3 : ((kj + 3 : Nat) : Int) = (kj : Int) + 1 + 1 + 1 := by omega
        rw [ek3] at hcall
        refine hcall.mono ?_
        rintro e w2 ⟨rfl, hb2⟩
        obtain ⟨k2, hk2⟩ : ∃ k2, kj + 3 + cntS (cntE g) l[j].list = k2 := ⟨_, rfl⟩
        have HK2' : Hid (kj + 3 + cntS (cntE g) l[j].list = k2) := hk2
        rw [hk2]
        have hk2b : k2 + nn ≤ 99999990 := by have := HKN.out; omega
        have hk2i : (k2 : Int) ≤ 99999990 := by omega
        have hk20 : (0 : Int) ≤ (k2 : Int) := by omega
        have hk2d : decide ((k2 : Int) < 0) = false := decide_eq_false (by omega)
        replace y4 := cell_on hb2 y4
        have HB3 : Hid (Below w.heap.size w w2) := HB2.out.trans (hb2.mono HB2.out.size)
        have HKE2 : Hid (Keeps 0 wr w2) := HKE.out.trans (Keeps.of_below hb2 (Nat.le_refl _) _)
        clear hcall hb2 hk2 c0 c1 c2 c3 c4 y2 y3
        go_wp2_with fail
        refine (heldStringS_any l[j].names _ k2 _ (HN.out _ HKE2.out) (by rw [← HK2'.out]; exact HM5.out) (by have := HK2'.out; omega) (by rw [HNN.out]; omega)).mono ?_
        rintro e w3 ⟨rfl, hb3⟩
        rw [HNN.out]
        have HB4 : Hid (Below w.heap.size w w3) := HB3.out.trans (hb3.mono HB3.out.size)
        obtain ⟨k3, hk3⟩ : ∃ k3, k2 + nn = k3 := ⟨_, rfl⟩
        have HK3 : Hid (k2 + nn = k3) := hk3
        rw [hk3]
        have hk3d : decide ((k3 : Int) < 0) = false := decide_eq_false (by omega)
        clear hb3 hk3
        go_wp2_with fail
        refine ⟨⟨j + 1, k3, by omega, by go_num, rfl, ?_, HB4⟩, by simp [intOf]; omega⟩
        show k3 = _
        have h1 := HKN.out.1; have h2 := HK3.out; have h3 := HK2'.out
        omega
    · obtain rfl : j = l.length := by omega
      go_wp2_with fail
      go_ret
      refine ⟨ret_int ?_, HB.out⟩
      rw [HKJ.out, List.take_length]

theorem heldL_all : ∀ f : Nat, HeldLC f
  | 0 => heldL_step 0 (fun g h => by omega)
  | f + 1 => heldL_step (f + 1) (fun g h => by obtain rfl : f = g := by omega
                                               exact heldL_all f)

set_option maxHeartbeats 1000000 in
theorem heldValue_any (f k : Nat) (t : Vl) (x0 x1 x2 vl vn : Value) (w : World) (ht : VlR w 0 (f + 1) t [x0, x1, x2, vl, vn]) (hM : MkL (MkE f) (cntE f) k t.list) (hN : MkN (k + cntS (cntE f) t.list) t.names) (hk1 : 1 ≤ k) (hk2 : k + cntS (cntE f) t.list + t.names.length ≤ 99999990) :
    Calls Try.prog 15 #[.agg #[x0, x1, x2, vl, vn], .int .i64 (k : Int)] w fun e w' => e = .returned (.int .i64 ((k + cntS (cntE f) t.list + t.names.length : Nat) : Int)) ∧ Below w.heap.size w w' := by
  obtain ⟨vl', vn', hv, _, _, _, hrow, hnames⟩ := ht
  simp only [List.cons.injEq, and_true] at hv
  obtain ⟨rfl, rfl, rfl, rfl, rfl⟩ := hv
  obtain ⟨al, cl, rfl, _⟩ := hrow.len
  obtain ⟨an, cn, rfl, _⟩ := hnames.len
  have HR : Hid (∀ W, Keeps 0 w W → Row W 0 5 80 (VlR W 0 f) t.list (.slice al t.list.length cl)) := fun W h => VlRow.keeps h hrow
  have HN : Hid (∀ W, Keeps 0 w W → StrRow W 0 t.names (.slice an t.names.length cn)) := fun W h => hnames.keeps h
  have HM : Hid _ := hM
  have HMN : Hid _ := hN
  have HK : Hid _ := hk2
  clear hrow hnames hM hN hk2
  go_enter Try.func15, Try.ntmps15
  go_wp2_with fail
  refine (heldL_all f t.list _ k _ (HR.out _ ((Keeps.refl _ _).alloc _)) HM.out hk1 (by have := HK.out; omega)).mono ?_
  rintro e w1 ⟨rfl, hb1⟩
  have b4 := cell_on hb1 (p := ⟨w.heap.size, 4, none⟩) (by simp; rfl)
  have HB1 : Hid (Below w.heap.size w w1) := ((Below.refl _ _).alloc (Nat.le_refl _) _).trans (hb1.mono (by simp))
  obtain ⟨k2, hk2⟩ : ∃ k2, k + cntS (cntE f) t.list = k2 := ⟨_, rfl⟩
  have HK2 : Hid (k + cntS (cntE f) t.list = k2) := hk2
  rw [hk2]
  have hk2d : decide ((k2 : Int) < 0) = false := decide_eq_false (by omega)
  have hz : w.heap.size < w1.heap.size := cell_lt b4
  clear hb1 hk2
  go_wp2_with fail
  refine (heldStringS_any t.names _ k2 _ (HN.out _ (Keeps.of_below HB1.out (Nat.le_refl _) _)) (by rw [← HK2.out]; exact HMN.out) (by have := HK2.out; omega) (by have := HK2.out; have := HK.out; omega)).mono ?_
  rintro e w2 ⟨rfl, hb2⟩
  have HB2 : Hid (Below w.heap.size w w2) := HB1.out.trans (hb2.mono HB1.out.size)
  obtain ⟨k3, hk3⟩ : ∃ k3, k2 + t.names.length = k3 := ⟨_, rfl⟩
  have HK3 : Hid (k2 + t.names.length = k3) := hk3
  rw [hk3]
  have hk3d : decide ((k3 : Int) < 0) = false := decide_eq_false (by omega)
  clear hb2 hk3
  go_wp2_with fail
  go_ret
  exact ⟨ret_int (by rw [← HK3.out, ← HK2.out]), HB2.out⟩

end Go.Proofs.Ytdaohfeajicamaa
