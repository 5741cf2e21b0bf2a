
/-
  DERIVED. THE WALK OF spec.l13Value.
-/
import Derived.Test.YtdaohfeajicamaaDrawW
import Derived.Test.YtdaohfeajicamaaDrawU
import Derived.Test.YtdaohfeajicamaaVSz
import Derived.Deep.LoopGhost
import Derived.Deep.Cut
import Derived.Deep.CutRange
import Derived.Deep.RegionHeld3
import Derived.Deep.AppendLies
import Derived.Deep.RegionLaw
import Derived.Handy
namespace Go.Proofs.Ytdaohfeajicamaa
open Go.RowKit
set_option linter.unusedVariables false
set_option linter.unusedSimpArgs false

/-- A value is no greater than so much. -/
def SzLe (t : Vl) (m : Nat) : Prop := ∀ sz : Vl → Nat, IsSz sz → sz t ≤ m
def SumLe (l : List Vl) (m : Nat) : Prop := ∀ sz : Vl → Nat, IsSz sz → sumL sz l ≤ m
theorem SumLe.nil : SumLe [] 0 := fun _ _ => Nat.le_refl _
theorem SumLe.snoc {l : List Vl} {x : Vl} {m q : Nat} (h : SumLe l m) (hx : SzLe x q) : SumLe (l ++ [x]) (m + q) := fun sz hs => by
  have h1 := h sz hs
  have h2 := hx sz hs
  have h3 : ∀ l : List Vl, sumL sz (l ++ [x]) = sumL sz l + sz x := fun l => by
    induction l with
    | nil => simp [sumL]
    | cons y r ih => simp only [List.cons_append, sumL, ih]; omega
  rw [h3]; omega
theorem SumLe.value {t : Vl} {m : Nat} (h : SumLe t.list m) : SzLe t (m + 2) := fun sz hs => by
  have := h sz hs
  rw [hs t]; omega

/-- A value was drawn. -/
def DrawnVl (d rb : Nat) (a : Option Addr) (n c p : Nat) (w : World) (e : Ending) (w' : World) : Prop :=
  ∃ (t : Vl) (x : Option Addr) (xc : Nat) (y : Option Addr) (yc p' : Nat), e = .returned (.agg #[.int .i64 t.kind, .int .i64 t.num, .string t.text, .slice x t.list.length xc, .slice y t.names.length yc]) ∧
    VlJ w' w.heap.size w'.heap.size d t [.int .i64 t.kind, .int .i64 t.num, .string t.text, .slice x t.list.length xc, .slice y t.names.length yc] ∧ RdAt w' rb a n c p' ∧ p' ≤ p + 10 * 4 ^ d ∧ Turns [rb] w w' ∧ SzLe t (2 * 4 ^ d) ∧
    ((∃ xs, MkT w' (w.heap.size + 1) (d - 1) t.list (.slice x t.list.length xc) xs t.names (.slice y t.names.length yc)) ∧ I64 t.kind ∧ I64 t.num ∧ t.text.size ≤ 140737488351232 ∧ t.list.length ≤ 3 ∧ t.names.length ≤ 3 ∧ (∀ s ∈ t.names, s.size ≤ 1000) ∧ SumLe t.list (2 * 4 ^ d))

def SpecDraw (k : Nat) : Prop := ∀ (rb : Nat) (a : Option Addr) (n c p : Nat) (w : World), p + 10 * 4 ^ (k + 1) ≤ 1000000 → RdAt w rb a n c p →
  Calls Try.prog 65 #[.pointer (some ⟨rb, 0, none⟩), .int .i64 ((k + 1 : Nat) : Int)] w (DrawnVl (k + 1) rb a n c p w)

theorem heap_setCells_ne {b : Nat} : ∀ (cs : List Value) (o : Nat) (w : World) (q : Nat), q ≠ b → (w.setCells b o cs).heap[q]? = w.heap[q]?
  | [], _, _, _, _ => rfl
  | v :: r, o, w, q, h => (heap_setCells_ne r (o + 1) (w.setCell ⟨b, o, none⟩ v) q h).trans (Below.heap_setCell _ _ _ _ h)
theorem size_setCells {b : Nat} : ∀ (cs : List Value) (o : Nat) (w : World), (w.setCells b o cs).heap.size = w.heap.size
  | [], _, _ => rfl
  | v :: r, o, w => (size_setCells r (o + 1) (w.setCell ⟨b, o, none⟩ v)).trans (by simp [World.setCell])
theorem Turns.setNewV {bs : List Nat} {a w : World} {b : Nat} (hb : a.heap.size ≤ b) : ∀ (cs : List Value) (o : Nat), Turns bs a w → Turns bs a (w.setCells b o cs) := fun cs o h => by
  have e : ∀ (cs : List Value) (o : Nat) (w : World), (w.setCells b o cs).os = w.os ∧ (w.setCells b o cs).tape = w.tape ∧ (w.setCells b o cs).output = w.output := by
    intro cs
    induction cs with
    | nil => intro o w; exact ⟨rfl, rfl, rfl⟩
    | cons v r ih => intro o w; exact ih (o + 1) (w.setCell ⟨b, o, none⟩ v)
  obtain ⟨e1, e2, e3⟩ := e cs o w
  exact ⟨e1.trans h.os, e2.trans h.tape, e3.trans h.output, by rw [size_setCells]; exact h.size, fun k h1 h2 => (heap_setCells_ne cs o w k (by omega)).trans (h.block k h1 h2)⟩

/-- What was made is a value that was drawn. -/
theorem DrawnVl.fin {k rb : Nat} {a : Option Addr} {n c p p' : Nat} {w W : World} {t : Vl} {x y : Option Addr} {xc yc : Nat} {xs : List Value} (hMT : MkT W (w.heap.size + 1) k t.list (.slice x t.list.length xc) xs t.names (.slice y t.names.length yc))
    (hrb : rb < w.heap.size) (hlow : LowV a n w.heap.size) (hR : RdAt W rb a n c p') (hp : p' ≤ p + 10 * 4 ^ (k + 1)) (hT : Turns [rb] w W) (h1 : I64 t.kind) (h2 : I64 t.num) (h3 : t.text.size ≤ 140737488351232) (h4 : t.list.length ≤ 3) (h5 : t.names.length ≤ 3) (h6' : ∀ s ∈ t.names, s.size ≤ 1000) (hz : SumLe t.list (3 * (2 * 4 ^ k))) :
    DrawnVl (k + 1) rb a n c p w (.returned (.agg #[.int .i64 t.kind, .int .i64 t.num, .string t.text, .slice x t.list.length xc, .slice y t.names.length yc])) (W.setCells w.heap.size 0 [.int .i64 t.kind, .int .i64 t.num, .string t.text, .slice x t.list.length xc, .slice y t.names.length yc]) := by
  have hM := hMT.mk'
  have hn := hMT.nown
  have h6 : ∀ s ∈ t.names, s.size ≤ 140737488351232 := fun s hs => by have := h6' s hs; omega
  have h8 : 4 ^ (k + 1) = 4 ^ k * 4 := Nat.pow_succ ..
  have h9 : 1 ≤ 4 ^ k := Nat.one_le_pow _ _ (by omega)
  have hJ := hM.value (lo := w.heap.size + 1) (kd := t.kind) (nm := t.num) (tx := t.text) hn (Nat.le_refl _) h1 h2 h3 (by omega) (by omega) h6
  have hJ' := hJ.same (w' := W.setCells w.heap.size 0 [.int .i64 t.kind, .int .i64 t.num, .string t.text, .slice x t.list.length xc, .slice y t.names.length yc]) (fun b g1 g2 => heap_setCells_ne _ _ _ _ (by omega))
  refine ⟨t, x, xc, y, yc, p', rfl, ?_, hR.grew (B := w.heap.size) hrb hlow (fun q hq => heap_setCells_ne _ _ _ _ (by omega)), hp, Turns.setNewV (Nat.le_refl _) _ _ hT, ?_, ⟨xs, hMT.same (fun b g1 g2 => heap_setCells_ne _ _ _ _ (by omega)) (by rw [size_setCells]; exact Nat.le_refl _)⟩, h1, h2, h3, h4, h5, h6', fun sz hs => by have := hz sz hs; omega⟩
  · exact hJ'.wide (Nat.le_succ _) (by rw [size_setCells]; exact Nat.le_refl _)
  · intro sz hs
    have := (SumLe.value hz) sz hs
    omega

theorem five_zero {W : World} {b : Nat} {x0 x1 x2 x3 x4 : Value} {e : TypeId} (h : Owns W b #[x0, x1, x2, x3, x4] e) : (W.cell? ⟨b, 0, none⟩ = some x0 ∧ W.cell? ⟨b, 1, none⟩ = some x1 ∧ W.cell? ⟨b, 2, none⟩ = some x2 ∧ W.cell? ⟨b, 3, none⟩ = some x3 ∧ W.cell? ⟨b, 4, none⟩ = some x4) ∧ ∀ o, W.frozen? ⟨b, o, none⟩ = false :=
  ⟨⟨h.cell 0, h.cell 1, h.cell 2, h.cell 3, h.cell 4⟩, fun o => h.frozen o⟩

theorem Owns.turnsW {rb : Nat} {w w' : World} (h : Turns [rb] w w') {b : Nat} {c : Array Value} {e : TypeId} (hb : b ≠ rb) (ho : Owns w b c e) : Owns w' b c e :=
  ho.sameW (h.block b ho.lt (by simpa using hb))
theorem i64_smallD {z : Int} (h1 : -3000000000 ≤ z) (h2 : z ≤ 3000000000) : I64 z := ⟨by omega, by omega⟩

theorem Mk.lower {wr : World} {B B' k : Nat} {l : List Vl} {ov : Value} {xs : List Value} (h : Mk wr B k l ov xs) (hB : B' ≤ B) : Mk wr B' k l ov xs := by
  refine ⟨⟨h.own.1, ?_⟩, fun i hi => ?_⟩
  · rcases h.own.2 with q | ⟨g, cap, cur, q1, q2, q3⟩
    · exact Or.inl q
    · exact Or.inr ⟨g, cap, cur, q1, by omega, q3⟩
  · obtain ⟨cs, lo, hi', b1, b2, b3, b4⟩ := h.kids i hi
    exact ⟨cs, lo, hi', b1, b2, by omega, b4⟩
theorem info_stringD : ∃ i, Try.prog.info? 9 = some i ∧ i.zero = some (.string ByteArray.empty) ∧ i.size = 1 ∧ i.bytes = 16 := by
  have h : (Try.prog.info? 9).map (fun i => (i.zero, i.size, i.bytes)) = some (some (.string ByteArray.empty), 1, 16) := by kernel_rfl
  obtain ⟨i, h1, h2⟩ := Option.map_eq_some_iff.1 h
  simp only [Prod.mk.injEq] at h2
  exact ⟨i, h1, h2.1, h2.2.1, h2.2.2⟩
theorem ownsRow_lower {w : World} {base base' : Nat} {e : TypeId} {size : Nat} {v : Value} {n : Nat} {xs : List Value} (h : w.ownsRow base e size v n xs) (hb : base' ≤ base) : w.ownsRow base' e size v n xs := by
  refine ⟨h.1, ?_⟩
  rcases h.2 with q | ⟨g, cap, cur, q1, q2, q3⟩
  · exact Or.inl q
  · exact Or.inr ⟨g, cap, cur, q1, by omega, q3⟩
theorem strRow_of_owns {w : World} {base : Nat} {nv : Value} {ns : List ByteArray} (hn : w.ownsRow base 9 1 nv ns.length (ns.map Value.string)) (h6 : ∀ s ∈ ns, s.size ≤ 140737488351232) (h5 : ns.length * 16 ≤ 140737488351232) : StrRow w 0 ns nv := by
  rcases hn.2 with ⟨q1, q2⟩ | ⟨g, cap, cur, q1, q2, q3, q4, q5, q6, q7⟩
  · exact Or.inl ⟨q1, List.eq_nil_of_length_eq_zero q2⟩
  · refine Or.inr ⟨⟨g, 0, none⟩, cap, q1, q4, q5, h5, fun i hi => ⟨Nat.zero_le _, rfl, [.string ns[i]], rfl, fun q hq => ?_, rfl, h6 _ (List.getElem_mem hi)⟩⟩
    obtain rfl : q = 0 := by simpa using hq
    show w.cell? ⟨g, 0 + i * 1 + 0, none⟩ = _
    have hO : Owns w g cur 9 := q3
    rw [hO.cell, Nat.zero_add, Nat.add_zero, Nat.mul_one]
    have h7 : (cur.toList.take (ns.length * 1))[i]? = (ns.map Value.string)[i]? := by rw [q7]
    rw [Nat.mul_one, List.getElem?_take, if_pos (by exact hi), Array.getElem?_toList] at h7
    rw [h7]; simp [hi]
theorem info_impl_ValueD : ∃ i, Try.prog.info? 29 = some i ∧ i.zero = some (.agg #[.int .i64 0, .int .i64 0, .string ByteArray.empty, .slice none 0 0, .slice none 0 0]) ∧ i.size = 5 ∧ i.bytes = 80 := by
  have h : (Try.prog.info? 29).map (fun i => (i.zero, i.size, i.bytes)) = some (some (.agg #[.int .i64 0, .int .i64 0, .string ByteArray.empty, .slice none 0 0, .slice none 0 0]), 5, 80) := by kernel_rfl
  obtain ⟨i, h1, h2⟩ := Option.map_eq_some_iff.1 h
  simp only [Prod.mk.injEq] at h2
  exact ⟨i, h1, h2.1, h2.2.1, h2.2.2⟩

set_option maxHeartbeats 8000000 in
set_option maxRecDepth 100000 in
theorem l13Value_step (k : Nat) (ih : ∀ j, k = j + 1 → SpecDraw j) (hk6 : k ≤ 6) : SpecDraw k := by
  intro rb a n c p w hp hR
  have HR : Hid (RdAt w rb a n c p) := hR
  have hrb := hR.own.lt
  have hlow := hR.lowV
  have h4k : 4 ^ (k + 1) = 4 ^ k * 4 := Nat.pow_succ ..
  have h41 : 1 ≤ 4 ^ k := Nat.one_le_pow _ _ (by omega)
  have HPW : Hid (p + 10 * 4 ^ (k + 1) ≤ 1000000 ∧ 4 ^ (k + 1) = 4 ^ k * 4 ∧ 1 ≤ 4 ^ k) := ⟨hp, h4k, h41⟩
  have hp9 : p ≤ 999960 := by omega
  have HLW : Hid (LowV a n w.heap.size) := hlow
  have IH : Hid (∀ j, k = j + 1 → SpecDraw j) := ih
  clear hR hp h4k h41 hlow ih
  have hki : ((k + 1 : Nat) : Int) = (k : Int) + 1 := by omega
  have hk6i : (k : Int) ≤ 6 := by omega
  rw [hki]
  clear hki
  go_enter Try.func65, Try.ntmps65
  go_wp2_with fail
  refine (one_any [0, 1, 2, 2, 3, 3, 4, 5] (w.heap.size + 1) 8 rb a n c p _ (by simp) (by simp) (by omega) ((HR.out.alloc _).alloc _) (by omega) (fun i h => by have := ints_atV (w.alloc (.cells #[.int .i64 0, .int .i64 0, .string ⟨#[]⟩, .slice none 0 0, .slice none 0 0] 29)) [0, 1, 2, 2, 3, 3, 4, 5] 3 i h; rw [show (w.alloc (.cells #[.int .i64 0, .int .i64 0, .string ⟨#[]⟩, .slice none 0 0, .slice none 0 0] 29)).heap.size = w.heap.size + 1 by simp] at this; exact this)).mono ?_
  rintro e w1 ⟨j, hj, rfl, hR1, hT1⟩
  obtain ⟨m0, hm0, hmj⟩ : ∃ m : Nat, m ≤ 5 ∧ ([0, 1, 2, 2, 3, 3, 4, 5] : List Int)[j] = (m : Int) := by
    simp at hj
    rcases (show j = 0 ∨ j = 1 ∨ j = 2 ∨ j = 3 ∨ j = 4 ∨ j = 5 ∨ j = 6 ∨ j = 7 by omega) with rfl | rfl | rfl | rfl | rfl | rfl | rfl | rfl
    all_goals first | exact ⟨0, by omega, rfl⟩ | exact ⟨1, by omega, rfl⟩ | exact ⟨2, by omega, rfl⟩ | exact ⟨3, by omega, rfl⟩ | exact ⟨4, by omega, rfl⟩ | exact ⟨5, by omega, rfl⟩
  rw [hmj]
  have HR1 : Hid (RdAt w1 rb a n c (p + 1)) := hR1
  have HT1 : Hid (Turns [rb] w w1) := (((Turns.refl _ _).allocV _).allocV _).trans hT1
  have HO1 : Hid (Owns w1 w.heap.size #[.int .i64 0, .int .i64 0, .string ⟨#[]⟩, .slice none 0 0, .slice none 0 0] 29) := by
    have h := (Owns.made w #[.int .i64 0, .int .i64 0, .string ⟨#[]⟩, .slice none 0 0, .slice none 0 0] 29)
    show Owns _ _ _ _
    unfold Owns at h ⊢
    rw [hT1.block _ (by simp <;> omega) (by simp; omega), Below.heap_alloc _ _ _ (by simp)]
    exact h
  clear hR1 hT1 HR hmj hj
  have hm0i : (m0 : Int) ≤ 5 := by omega
  go_upto_region 2 with fail
  go_cut [18] from 10 (fun v wx => ∃ b : Bool, v = .bool b ∧ wx = w1 ∧ Hid (b = false → 3 < m0 → 1 ≤ k))
  case first =>
    by_cases hk0 : k = 0
    · subst hk0
      by_cases hm3 : (3 : Int) < (m0 : Int)
      · go_wp2_with fail
        go_meet
        case rel => exact ⟨true, rfl, rfl, fun h => by simp at h⟩
      · have hm3' : decide ((3 : Int) < (m0 : Int)) = false := decide_eq_false hm3
        go_wp2_with fail
        go_meet
        case rel => exact ⟨false, rfl, rfl, fun _ h => by omega⟩
    · have hk1 : decide ((k : Int) + 1 ≤ 1) = false := decide_eq_false (by omega)
      have hk2 : ¬ (k : Int) ≤ 0 := by omega
      go_wp2_with fail
      go_meet
      case rel => exact ⟨false, rfl, rfl, fun _ _ => by omega⟩
  case rest =>
    obtain ⟨bb, rfl, rfl, HBB⟩ := hcut
    go_upto_if 18 with fail
    go_cut [5] from 10 (fun v wx => ∃ (K q : Nat), v = .int .i64 (K : Int) ∧ K ≤ 5 ∧ (3 < K → 1 ≤ k) ∧ q ≤ p + 2 ∧ Hid (RdAt wx rb a n c q) ∧ Hid (Turns [rb] w wx) ∧ Hid (Owns wx w.heap.size #[.int .i64 0, .int .i64 0, .string ⟨#[]⟩, .slice none 0 0, .slice none 0 0] 29))
    case first =>
      cases bb
      · go_wp2_with fail
        go_meet
        case rel => exact ⟨m0, p + 1, rfl, hm0, (by have h := HBB.out; simpa using h), by omega, HR1, HT1, HO1⟩
      · go_wp2_with fail
        refine (pick_any 4 rb a n c (p + 1) _ (by omega) (by omega) (by omega) HR1.out).mono ?_
        rintro e w2 ⟨x, hx, rfl, hR2, hT2⟩
        have HR2 : Hid (RdAt w2 rb a n c (p + 2)) := hR2
        have HT2 : Hid (Turns [rb] w w2) := HT1.out.trans hT2
        have HO2 : Hid (Owns w2 w.heap.size #[.int .i64 0, .int .i64 0, .string ⟨#[]⟩, .slice none 0 0, .slice none 0 0] 29) := Owns.sameW HO1.out (hT2.block _ HO1.out.lt (by simp; omega))
        clear hR2 hT2
        go_wp2_with fail
        go_meet
        case rel => exact ⟨x, p + 2, rfl, by omega, by omega, by omega, HR2, HT2, HO2⟩
    case rest =>
      obtain ⟨K, q, rfl, hK5, hK3, hq, HR2, HT2, HO2⟩ := hcut
      have hwb : w.heap.size < wc.heap.size := HO2.out.lt
      obtain ⟨W1, hW1⟩ : ∃ W1, W1 = wc.alloc (.cells #[.int .i64 (K : Int), .int .i64 0, .string ⟨#[]⟩, .slice none 0 0, .slice none 0 0] 29) := ⟨_, rfl⟩
      have hOv : Owns W1 wc.heap.size #[.int .i64 (K : Int), .int .i64 0, .string ⟨#[]⟩, .slice none 0 0, .slice none 0 0] 29 := by rw [hW1]; exact Owns.made _ _ _
      have hRw : RdAt W1 rb a n c q := by rw [hW1]; exact HR2.out.alloc _
      have hTw : Turns [rb] w W1 := by rw [hW1]; exact HT2.out.allocV _
      have hOr : Owns W1 w.heap.size #[.int .i64 0, .int .i64 0, .string ⟨#[]⟩, .slice none 0 0, .slice none 0 0] 29 := by rw [hW1]; exact Owns.sameW HO2.out (Below.heap_alloc _ _ _ hwb)
      have HRw : Hid (RdAt W1 rb a n c q) := hRw
      have HTw : Hid (Turns [rb] w W1) := hTw
      obtain ⟨⟨v0, v1, v2, v3, v4⟩, vz⟩ := five_zero hOv
      obtain ⟨⟨r0, r1, r2, r3, r4⟩, rz⟩ := five_zero hOr
      have HOv : Hid (Owns W1 wc.heap.size #[.int .i64 (K : Int), .int .i64 0, .string ⟨#[]⟩, .slice none 0 0, .slice none 0 0] 29) := hOv
      have HOr : Hid (Owns W1 w.heap.size #[.int .i64 0, .int .i64 0, .string ⟨#[]⟩, .slice none 0 0, .slice none 0 0] 29) := hOr
      have hvl : wc.heap.size < W1.heap.size := hOv.lt
      have hne : w.heap.size ≠ wc.heap.size := by omega
      go_upto_region 5 with fail
      rw [← hW1]
      clear hW1 hOv hOr hRw hTw HR2 HT2 HO2 HR1 HT1 HO1 HBB
      obtain ⟨vb, hvb⟩ : ∃ vb, wc.heap.size = vb := ⟨_, rfl⟩
      rw [hvb] at hwb v0 v1 v2 v3 v4 vz HOv hvl hne ⊢
      clear hvb
      rcases (show K = 0 ∨ K = 1 ∨ K = 2 ∨ K = 3 ∨ K = 4 ∨ K = 5 by omega) with rfl | rfl | rfl | rfl | rfl | rfl
      · go_wp2_with fail
        refine bodyPost_ret (v := .agg #[.int .i64 0, .int .i64 0, .string ⟨#[]⟩, .slice none 0 0, .slice none 0 0]) (by simp [results, Try.results65, go_sem, r0, r1, r2, r3, r4]) rfl ?_
        exact DrawnVl.fin (t := ⟨0, 0, ⟨#[]⟩, [], []⟩) (k := k) (MkT.nil _ _ _) hrb HLW.out HRw.out (by have := HPW.out; omega) HTw.out (i64_smallD (by decide) (by decide)) (i64_smallD (by decide) (by decide)) (by decide) (by simp) (by simp) (by simp) (fun sz hs => by simp [sumL])
      · go_wp2_with fail
        refine (pick_any 2 rb a n c q _ (by omega) (by omega) (by omega) HRw.out).mono ?_
        rintro e w2 ⟨x, hx, rfl, hR2, hT2⟩
        have hrv : vb ≠ rb := by omega
        obtain ⟨⟨y0, y1, y2, y3, y4⟩, yz⟩ := five_zero (Owns.turnsW hT2 hrv HOv.out)
        obtain ⟨⟨z0, z1, z2, z3, z4⟩, zz⟩ := five_zero (Owns.turnsW hT2 (by omega) HOr.out)
        have HR2 : Hid (RdAt w2 rb a n c (q + 1)) := hR2
        have HT2 : Hid (Turns [rb] w w2) := HTw.out.trans hT2
        clear hR2 hT2 v0 v1 v2 v3 v4 vz r0 r1 r2 r3 r4 rz HOv HOr
        go_wp2_with fail
        refine bodyPost_ret (v := .agg #[.int .i64 1, .int .i64 (x : Int), .string ⟨#[]⟩, .slice none 0 0, .slice none 0 0]) (by simp [results, Try.results65, go_sem, z0, z1, z2, z3, z4, hne]) rfl ?_
        exact DrawnVl.fin (t := ⟨1, (x : Int), ⟨#[]⟩, [], []⟩) (k := k) (W := w2.setCell ⟨vb, 1, none⟩ (.int .i64 (x : Int))) (MkT.nil _ _ _) hrb HLW.out (HR2.out.grew (B := w.heap.size) hrb HLW.out (fun q hq => Below.heap_setCell _ _ _ _ (by show q ≠ vb; omega))) (by have := HPW.out; omega) (Turns.setNewV (b := vb) (by omega) [.int .i64 (x : Int)] 1 HT2.out) (show I64 (1 : Int) from i64_smallD (by decide) (by decide)) (show I64 (x : Int) from i64_smallD (by omega) (by omega)) (show (⟨#[]⟩ : ByteArray).size ≤ _ from by decide) (by simp) (by simp) (by simp) (fun sz hs => by simp [sumL])
      · go_wp2_with fail
        refine (one_any [0, 1, -1, 7, 42, 2147483647, -2147483647] W1.heap.size 7 rb a n c q _ (by simp) (by simp) (by omega) (HRw.out.alloc _) (by omega) (fun i h => ints_atV W1 _ _ i h)).mono ?_
        rintro e w2 ⟨i, hi, rfl, hR2, hT2'⟩
        have hT2 : Turns [rb] W1 w2 := ((Turns.refl _ _).allocV _).trans hT2'
        have hrv : vb ≠ rb := by omega
        obtain ⟨⟨y0, y1, y2, y3, y4⟩, yz⟩ := five_zero (Owns.turnsW hT2 hrv HOv.out)
        obtain ⟨⟨z0, z1, z2, z3, z4⟩, zz⟩ := five_zero (Owns.turnsW hT2 (by omega) HOr.out)
        have HR2 : Hid (RdAt w2 rb a n c (q + 1)) := hR2
        have HT2 : Hid (Turns [rb] w w2) := HTw.out.trans hT2
        obtain ⟨x, hx, hx1, hx2⟩ : ∃ x : Int, ([0, 1, -1, 7, 42, 2147483647, -2147483647] : List Int)[i] = x ∧ -3000000000 ≤ x ∧ x ≤ 3000000000 := by
          simp at hi
          rcases (show i = 0 ∨ i = 1 ∨ i = 2 ∨ i = 3 ∨ i = 4 ∨ i = 5 ∨ i = 6 by omega) with rfl | rfl | rfl | rfl | rfl | rfl | rfl
          all_goals exact ⟨_, rfl, by simp, by simp⟩
        rw [hx]
        clear hx hi hT2'
        clear hR2 hT2 v0 v1 v2 v3 v4 vz r0 r1 r2 r3 r4 rz HOv HOr
        go_wp2_with fail
        refine bodyPost_ret (v := .agg #[.int .i64 2, .int .i64 x, .string ⟨#[]⟩, .slice none 0 0, .slice none 0 0]) (by simp [results, Try.results65, go_sem, z0, z1, z2, z3, z4, hne]) rfl ?_
        exact DrawnVl.fin (t := ⟨2, x, ⟨#[]⟩, [], []⟩) (k := k) (W := w2.setCell ⟨vb, 1, none⟩ (.int .i64 x)) (MkT.nil _ _ _) hrb HLW.out (HR2.out.grew (B := w.heap.size) hrb HLW.out (fun q hq => Below.heap_setCell _ _ _ _ (by show q ≠ vb; omega))) (by have := HPW.out; omega) (Turns.setNewV (b := vb) (by omega) [.int .i64 x] 1 HT2.out) (show I64 (2 : Int) from i64_smallD (by decide) (by decide)) (show I64 x from i64_smallD hx1 hx2) (show (⟨#[]⟩ : ByteArray).size ≤ _ from by decide) (by simp) (by simp) (by simp) (fun sz hs => by simp [sumL])
      · go_wp2_with fail
        refine (l13Text_any rb a n c q _ (by omega) HRw.out).mono ?_
        rintro e w2 ⟨tx, rfl, htx, hR2, hT2⟩
        have hrv : vb ≠ rb := by omega
        obtain ⟨⟨y0, y1, y2, y3, y4⟩, yz⟩ := five_zero (Owns.turnsW hT2 hrv HOv.out)
        obtain ⟨⟨z0, z1, z2, z3, z4⟩, zz⟩ := five_zero (Owns.turnsW hT2 (by omega) HOr.out)
        have HR2 : Hid (RdAt w2 rb a n c (q + 1)) := hR2
        have HT2 : Hid (Turns [rb] w w2) := HTw.out.trans hT2
        clear hR2 hT2 v0 v1 v2 v3 v4 vz r0 r1 r2 r3 r4 rz HOv HOr
        go_wp2_with fail
        refine bodyPost_ret (v := .agg #[.int .i64 3, .int .i64 0, .string tx, .slice none 0 0, .slice none 0 0]) (by simp [results, Try.results65, go_sem, z0, z1, z2, z3, z4, hne]) rfl ?_
        exact DrawnVl.fin (t := ⟨3, 0, tx, [], []⟩) (k := k) (W := w2.setCell ⟨vb, 2, none⟩ (.string tx)) (MkT.nil _ _ _) hrb HLW.out (HR2.out.grew (B := w.heap.size) hrb HLW.out (fun q hq => Below.heap_setCell _ _ _ _ (by show q ≠ vb; omega))) (by have := HPW.out; omega) (Turns.setNewV (b := vb) (by omega) [.string tx] 2 HT2.out) (show I64 (3 : Int) from i64_smallD (by decide) (by decide)) (show I64 (0 : Int) from i64_smallD (by decide) (by decide)) htx (by simp) (by simp) (by simp) (fun sz hs => by simp [sumL])
      · obtain ⟨j, rfl⟩ : ∃ j, k = j + 1 := ⟨k - 1, by have := hK3 (by omega); omega⟩
        have hIH := IH.out j rfl
        have HIH : Hid (SpecDraw j) := hIH
        have hji : (j : Int) ≤ 6 := by omega
        have hwj : IntKind.i64.wrap ((j : Int) + 1) = (j : Int) + 1 := by rw [IntKind.wrap_i64]; omega
        clear hIH IH
        go_wp2_with fail
        refine (pick_any 4 rb a n c q _ (by omega) (by omega) (by omega) HRw.out).mono ?_
        rintro e w2 ⟨m, hm, rfl, hR2, hT2⟩
        have hrv : vb ≠ rb := by omega
        have HO2 : Hid (Owns w2 vb #[.int .i64 ((4 : Nat) : Int), .int .i64 0, .string ⟨#[]⟩, .slice none 0 0, .slice none 0 0] 29) := Owns.turnsW hT2 hrv HOv.out
        have HX2 : Hid (Owns w2 w.heap.size #[.int .i64 0, .int .i64 0, .string ⟨#[]⟩, .slice none 0 0, .slice none 0 0] 29) := Owns.turnsW hT2 (by omega) HOr.out
        have HR2 : Hid (RdAt w2 rb a n c (q + 1)) := hR2
        have HT2 : Hid (Turns [rb] w w2) := HTw.out.trans hT2
        clear hR2 hT2 v0 v1 v2 v3 v4 vz r0 r1 r2 r3 r4 rz HOv HOr HTw HRw
        obtain ⟨i0, hi0, hz0, hz1, hz2⟩ := info_impl_ValueD
        go_wp2_with fail
        go_loopg [7] m (fun m v wr => ∃ (l : List Vl) (x : Option Addr) (xc q : Nat) (xs : List Value), v = .int .i64 (m : Int) ∧ l.length + m ≤ 3 ∧ Hid (Mk wr (vb + 1) (j + 1) l (.slice x l.length xc) xs) ∧ Hid (Owns wr vb #[.int .i64 ((4 : Nat) : Int), .int .i64 0, .string ⟨#[]⟩, .slice x l.length xc, .slice none 0 0] 29) ∧ Hid (Owns wr w.heap.size #[.int .i64 0, .int .i64 0, .string ⟨#[]⟩, .slice none 0 0, .slice none 0 0] 29) ∧ Hid (RdAt wr rb a n c q) ∧ Hid (q + m * (10 * 4 ^ (j + 1)) ≤ p + 3 + 3 * (10 * 4 ^ (j + 1))) ∧ Hid (Turns [rb] w wr) ∧ Hid (SumLe l (l.length * (2 * 4 ^ (j + 1)))))
        case atStart => exact ⟨[], none, 0, q + 1, [], rfl, by simp; omega, Mk.nil _ _ _, HO2, HX2, HR2, (by show _ ≤ _; have : m * (10 * 4 ^ (j + 1)) ≤ 3 * (10 * 4 ^ (j + 1)) := Nat.mul_le_mul_right _ (by omega); omega), HT2, (by show SumLe _ _; simp only [List.length_nil, Nat.zero_mul]; exact SumLe.nil)⟩
        case round =>
          rename Nat => m'
          clear HO2 HX2 HR2 HT2
          obtain ⟨l, x, xc, q', xs, rfl, hlm, HM, HO, HX, HRd, HQ, HT, HS⟩ := hrel
          obtain ⟨⟨v0, v1, v2, v3, v4⟩, vz⟩ := five_zero HO.out
          obtain ⟨⟨r0, r1, r2, r3, r4⟩, rz⟩ := five_zero HX.out
          have hvl2 := HO.out.lt
          by_cases hz : m' = 0
          · subst hz
            go_wp2_with fail
            refine bodyPost_ret (v := .agg #[.int .i64 4, .int .i64 0, .string ⟨#[]⟩, .slice x l.length xc, .slice none 0 0]) (by simp [results, Try.results65, go_sem, r0, r1, r2, r3, r4]) rfl ?_
            exact DrawnVl.fin (t := ⟨4, 0, ⟨#[]⟩, l, []⟩) (k := j + 1) (Mk.toT (Mk.lower HM.out (by omega))) hrb HLW.out HRd.out (by have h1 := HPW.out; have h2 := HQ.out; omega) HT.out (show I64 (4 : Int) from i64_smallD (by decide) (by decide)) (show I64 (0 : Int) from i64_smallD (by decide) (by decide)) (show (⟨#[]⟩ : ByteArray).size ≤ _ from by decide) (show l.length ≤ 3 by omega) (by simp) (by simp) (fun sz hs => by have h1 := HS.out sz hs; have h2 : l.length * (2 * 4 ^ (j + 1)) ≤ 3 * (2 * 4 ^ (j + 1)) := Nat.mul_le_mul_right _ (by omega); show sumL sz l ≤ _; omega)
          · have hzi : (0 : Int) < (m' : Int) := by omega
            have hrv2 : vb ≠ rb := by omega
            have NBv : Hid (some vb ≠ (Value.slice x l.length xc).ownBlock) := HM.out.far (by omega)
            have HQ2 : Hid (q' + 10 * 4 ^ (j + 1) ≤ 1000000) := by
              have h1 := HPW.out
              have h2 := HQ.out
              have h3 : 1 * (10 * 4 ^ (j + 1)) ≤ m' * (10 * 4 ^ (j + 1)) := Nat.mul_le_mul_right _ (by omega)
              show _ ≤ _
              omega
            have HCALL : Hid (Calls Try.prog 65 #[.pointer (some ⟨rb, 0, none⟩), .int .i64 ((j : Int) + 1)] wr.drew (fun e w1 => ∃ (t : Vl) (x1 : Option Addr) (c1 : Nat) (y1 : Option Addr) (d1 q1 : Nat),
                e = .returned (.agg #[.int .i64 t.kind, .int .i64 t.num, .string t.text, .slice x1 t.list.length c1, .slice y1 t.names.length d1]) ∧ w1.cell? ⟨vb, 3, none⟩ = some (.slice x l.length xc) ∧ w1.frozen? ⟨vb, 3, none⟩ = false ∧ vb + 1 ≤ w1.heap.size ∧ vb < w1.heap.size ∧
                Hid (w1.ownsRow (vb + 1) 29 5 (.slice x l.length xc) l.length xs) ∧ Hid (Turns [rb] wr w1) ∧ Hid (RdAt w1 rb a n c q1 ∧ q1 ≤ q' + 10 * 4 ^ (j + 1) ∧ SzLe t (2 * 4 ^ (j + 1))) ∧ Hid (VlJ w1 wr.heap.size w1.heap.size (j + 1) t [.int .i64 t.kind, .int .i64 t.num, .string t.text, .slice x1 t.list.length c1, .slice y1 t.names.length d1]))) := by
              have hc := HIH.out rb a n c q' wr.drew HQ2.out ⟨HRd.out.own, HRd.out.len, HRd.out.byte⟩
              rw [show ((j + 1 : Nat) : Int) = (j : Int) + 1 by omega] at hc
              refine hc.mono ?_
              rintro e w1 ⟨t, x1, c1, y1, d1, q1, rfl, hJ, hR1, hq1, hT1, hZ1, -⟩
              have hT1' : Turns [rb] wr w1 := ⟨hT1.os, hT1.tape, hT1.output, hT1.size, hT1.block⟩
              have hOv1 := Owns.turnsW hT1' hrv2 HO.out
              have hrow : (∀ b, vb + 1 ≤ b → b < wr.heap.size → w1.heap[b]? = wr.heap[b]?) := fun b h1 h2 => hT1'.block b h2 (by simp; omega)
              exact ⟨t, x1, c1, y1, d1, q1, rfl, hOv1.cell 3, hOv1.frozen 3, hOv1.lt, hOv1.lt, (HM.out.same hrow hT1.size).own, hT1', ⟨hR1, hq1, hZ1⟩, hJ⟩
            clear HRd
            go_wp2_with fail
            go_region_law (first
                | (refine step_append_lies _ (by rfl) _ _ _ (by rfl) (vb + 1) 29 i0 _ 5 80 Try.underlying27 hi0 hz0 hz1 hz2 rfl (by omega) (.slice x l.length xc) l.length xs (by rfl) (HOWN.out.alloc _)
                    ⟨w1.heap.size, 0, none⟩ 1 1 [.int .i64 t.kind, .int .i64 t.num, .string t.text, .slice x1 t.list.length c1, .slice y1 t.names.length d1] (by rfl) (by rfl) (World.news_of_block (cs := #[.int .i64 t.kind, .int .i64 t.num, .string t.text, .slice x1 t.list.length c1, .slice y1 t.names.length d1]) (t := 29) (fr := (0, 0)) (heap_alloc_new w1 _)) (by simp [Value.oneCell'])
                    (by omega) (by unfold maxLen; omega) (by omega) (by simp; omega) (w1.heap.size + 1) (by simp) ?_; intro g cap w2 hown2 hgrow hat hlt2; have f3' : w2.cell? ⟨vb, 3, none⟩ = some (.slice x l.length xc) := hgrow.cell (a := ⟨vb, 3, none⟩) ((World.cell?_alloc_lt _ _ _ (cell_lt f3)).trans f3) NBv.out; have f3f' : w2.frozen? ⟨vb, 3, none⟩ = false := (hgrow.frozen_far ⟨vb, 3, none⟩ (by simp; omega) NBv.out).trans ((World.frozen?_of_block (w := w1) (Below.heap_alloc _ _ _ (cell_lt f3))).trans f3f))
                | (go_simp; go_at_call 65; refine (Hid.out HCALL).mono ?_; rintro e w1 ⟨t, x1, c1, y1, d1, q1, rfl, f3, f3f, hsz1, hsz1', HOWN, HT1, HR1, HJ1⟩))
            all_goals
              have hzw := HT1.out.size
              have HM' : Hid (Mk (w2.setCell ⟨vb, 3, none⟩ (.slice (some ⟨g, 0, none⟩) (l.length + 1) cap)) (vb + 1) (j + 1) (l ++ [t]) (.slice (some ⟨g, 0, none⟩) (l.length + 1) cap) (xs ++ [.int .i64 t.kind, .int .i64 t.num, .string t.text, .slice x1 t.list.length c1, .slice y1 t.names.length d1])) :=
                HM.out.step (vb := vb) (by omega) hvl2 rfl (fun b h1 h2 => HT1.out.block b h2 (by simp; omega)) hzw HJ1.out hown2 hgrow hat (fun b hb => Below.heap_setCell _ _ _ _ hb) (by simp [World.setCell])
              have hsm : ∀ b, b ≤ vb → b ≠ rb → w2.heap[b]? = wr.heap[b]? := fun b hb hbr => by
                rw [hgrow.block b (by simp; omega) (HM.out.far (by omega)), Below.heap_alloc _ _ _ (by omega), HT1.out.block b (by omega) (by simpa using hbr)]
              have HO' : Hid (Owns (w2.setCell ⟨vb, 3, none⟩ (.slice (some ⟨g, 0, none⟩) (l.length + 1) cap)) vb #[.int .i64 ((4 : Nat) : Int), .int .i64 0, .string ⟨#[]⟩, .slice (some ⟨g, 0, none⟩) (l.length + 1) cap, .slice none 0 0] 29) := (Owns.sameW HO.out (hsm vb (Nat.le_refl _) hrv2)).set 3 _
              have HX' : Hid (Owns (w2.setCell ⟨vb, 3, none⟩ (.slice (some ⟨g, 0, none⟩) (l.length + 1) cap)) w.heap.size #[.int .i64 0, .int .i64 0, .string ⟨#[]⟩, .slice none 0 0, .slice none 0 0] 29) := Owns.sameW HX.out ((Below.heap_setCell _ _ _ _ (by show w.heap.size ≠ vb; exact hne)).trans (hsm _ (by omega) (by omega)))
              have HR' : Hid (RdAt (w2.setCell ⟨vb, 3, none⟩ (.slice (some ⟨g, 0, none⟩) (l.length + 1) cap)) rb a n c q1) := HR1.out.1.grew (B := w.heap.size) hrb HLW.out (fun b hb => by
                rw [Below.heap_setCell _ _ _ _ (by show b ≠ vb; omega), hgrow.block b (by simp; omega) (HM.out.far (by omega)), Below.heap_alloc _ _ _ (by omega)])
              have HT' : Hid (Turns [rb] w (w2.setCell ⟨vb, 3, none⟩ (.slice (some ⟨g, 0, none⟩) (l.length + 1) cap))) := by
                refine ⟨hgrow.os.trans (HT1.out.os.trans HT.out.os), hgrow.tape.trans (HT1.out.tape.trans HT.out.tape), hgrow.output.trans (HT1.out.output.trans HT.out.output), ?_, fun b h1 h2 => ?_⟩
                · have h3 := hgrow.size
                  have h4 := HT.out.size
                  simp [World.setCell] at h3 ⊢
                  omega
                · rw [Below.heap_setCell _ _ _ _ (by show b ≠ vb; omega), hsm b (by omega) (by simpa using h2)]
                  exact HT.out.block b h1 h2
              have HQ' : Hid (q1 + (m' - 1) * (10 * 4 ^ (j + 1)) ≤ p + 3 + 3 * (10 * 4 ^ (j + 1))) := by
                have h1 := HQ.out
                have h2 := HR1.out.2.1
                have h3 : m' * (10 * 4 ^ (j + 1)) = (m' - 1) * (10 * 4 ^ (j + 1)) + 10 * 4 ^ (j + 1) := by
                  conv => lhs; rw [show m' = m' - 1 + 1 by omega]
                  rw [Nat.add_mul, Nat.one_mul]
                show _ ≤ _
                omega
              have HS' : Hid (SumLe (l ++ [t]) ((l ++ [t]).length * (2 * 4 ^ (j + 1)))) := by
                have h1 := HS.out.snoc HR1.out.2.2
                have h2 : (l ++ [t]).length * (2 * 4 ^ (j + 1)) = l.length * (2 * 4 ^ (j + 1)) + 2 * 4 ^ (j + 1) := by
                  rw [List.length_append, List.length_cons, List.length_nil, Nat.add_mul, Nat.zero_add, Nat.one_mul]
                show SumLe _ _
                rw [h2]; exact h1
              have hll : (l ++ [t]).length = l.length + 1 := by simp
              have HLL : Hid ((l ++ [t]).length = l.length + 1) := hll
              clear HM HO HX HT HQ HS HR1 HJ1 HOWN HT1 hgrow hown2 hat hsm HQ2 HCALL v0 v1 v2 v3 v4 vz r0 r1 r2 r3 r4 rz f3 f3f f3' f3f' hll
              go_wp2_with fail
              go_roundg (m' - 1)
              case rel =>
                refine ⟨l ++ [t], some ⟨g, 0, none⟩, cap, q1, xs ++ [.int .i64 t.kind, .int .i64 t.num, .string t.text, .slice x1 t.list.length c1, .slice y1 t.names.length d1], ?_, by have h1 := Hid.out HLL; omega, ?_, ?_, HX', HR', HQ', HT', HS'⟩
                · congr 1; omega
                · rw [Hid.out HLL]; exact HM'
                · rw [Hid.out HLL]; exact HO'
              case measure => omega
      · obtain ⟨j, rfl⟩ : ∃ j, k = j + 1 := ⟨k - 1, by have := hK3 (by omega); omega⟩
        have hIH := IH.out j rfl
        have HIH : Hid (SpecDraw j) := hIH
        have hji : (j : Int) ≤ 6 := by omega
        have hwj : IntKind.i64.wrap ((j : Int) + 1) = (j : Int) + 1 := by rw [IntKind.wrap_i64]; omega
        clear hIH IH
        go_wp2_with fail
        refine (pick_any 4 rb a n c q _ (by omega) (by omega) (by omega) HRw.out).mono ?_
        rintro e w2 ⟨m, hm, rfl, hR2, hT2⟩
        have hrv : vb ≠ rb := by omega
        have HO2 : Hid (Owns w2 vb #[.int .i64 ((5 : Nat) : Int), .int .i64 0, .string ⟨#[]⟩, .slice none 0 0, .slice none 0 0] 29) := Owns.turnsW hT2 hrv HOv.out
        have HX2 : Hid (Owns w2 w.heap.size #[.int .i64 0, .int .i64 0, .string ⟨#[]⟩, .slice none 0 0, .slice none 0 0] 29) := Owns.turnsW hT2 (by omega) HOr.out
        have HR2 : Hid (RdAt w2 rb a n c (q + 1)) := hR2
        have HT2 : Hid (Turns [rb] w w2) := HTw.out.trans hT2
        clear hR2 hT2 v0 v1 v2 v3 v4 vz r0 r1 r2 r3 r4 rz HOv HOr HTw HRw
        obtain ⟨i0, hi0, hz0, hz1, hz2⟩ := info_impl_ValueD
        obtain ⟨i1, hj0, hy0, hy1, hy2⟩ := info_stringD
        go_wp2_with fail
        go_loopg [8] m (fun m v wr => ∃ (l : List Vl) (ns : List ByteArray) (x : Option Addr) (xc : Nat) (y : Option Addr) (yc q : Nat) (xs : List Value), v = .int .i64 (m : Int) ∧ l.length + m ≤ 3 ∧ Hid (ns.length = l.length) ∧ Hid (MkT wr (vb + 1) (j + 1) l (.slice x l.length xc) xs ns (.slice y ns.length yc)) ∧ Hid (Owns wr vb #[.int .i64 ((5 : Nat) : Int), .int .i64 0, .string ⟨#[]⟩, .slice x l.length xc, .slice y ns.length yc] 29) ∧ Hid (Owns wr w.heap.size #[.int .i64 0, .int .i64 0, .string ⟨#[]⟩, .slice none 0 0, .slice none 0 0] 29) ∧ Hid (RdAt wr rb a n c q) ∧ Hid (q + m * (1 + 10 * 4 ^ (j + 1)) ≤ p + 3 + 3 * (1 + 10 * 4 ^ (j + 1))) ∧ Hid (Turns [rb] w wr) ∧ Hid (∀ s ∈ ns, s.size ≤ 1000) ∧ Hid (SumLe l (l.length * (2 * 4 ^ (j + 1)))))
        case atStart => exact ⟨[], [], none, 0, none, 0, q + 1, [], rfl, by simp; omega, rfl, MkT.nil _ _ _, HO2, HX2, HR2, (by show _ ≤ _; have : m * (1 + 10 * 4 ^ (j + 1)) ≤ 3 * (1 + 10 * 4 ^ (j + 1)) := Nat.mul_le_mul_right _ (by omega); omega), HT2, (by intro s hs; simp at hs), (by show SumLe _ _; simp only [List.length_nil, Nat.zero_mul]; exact SumLe.nil)⟩
        case round =>
          rename Nat => m'
          clear HO2 HX2 HR2 HT2
          obtain ⟨l, ns, x, xc, y, yc, q', xs, rfl, hlm, HNL, HM, HO, HX, HRd, HQ, HT, HSN, HS⟩ := hrel
          obtain ⟨⟨v0, v1, v2, v3, v4⟩, vz⟩ := five_zero HO.out
          obtain ⟨⟨r0, r1, r2, r3, r4⟩, rz⟩ := five_zero HX.out
          have hvl2 := HO.out.lt
          have hns3 : ns.length ≤ 3 := by have := HNL.out; omega
          by_cases hz : m' = 0
          · subst hz
            go_wp2_with fail
            refine bodyPost_ret (v := .agg #[.int .i64 5, .int .i64 0, .string ⟨#[]⟩, .slice x l.length xc, .slice y ns.length yc]) (by simp [results, Try.results65, go_sem, r0, r1, r2, r3, r4]) rfl ?_
            exact DrawnVl.fin (t := ⟨5, 0, ⟨#[]⟩, l, ns⟩) (k := j + 1) (MkT.lower HM.out (by omega)) hrb HLW.out HRd.out (by have h1 := HPW.out; have h2 := HQ.out; omega) HT.out (show I64 (5 : Int) from i64_smallD (by decide) (by decide)) (show I64 (0 : Int) from i64_smallD (by decide) (by decide)) (show (⟨#[]⟩ : ByteArray).size ≤ _ from by decide) (show l.length ≤ 3 by omega) hns3 HSN.out (fun sz hs => by have h1 := HS.out sz hs; have h2 : l.length * (2 * 4 ^ (j + 1)) ≤ 3 * (2 * 4 ^ (j + 1)) := Nat.mul_le_mul_right _ (by omega); show sumL sz l ≤ _; omega)
          · have hzi : (0 : Int) < (m' : Int) := by omega
            have hrv2 : vb ≠ rb := by omega
            have hq9 : q' ≤ 999985 := by
              have h1 := HPW.out
              have h2 := HQ.out
              have h3 : 1 * (1 + 10 * 4 ^ (j + 1)) ≤ m' * (1 + 10 * 4 ^ (j + 1)) := Nat.mul_le_mul_right _ (by omega)
              omega
            go_wp2_with fail
            refine (of_any [⟨#[97]⟩, ⟨#[98]⟩, ⟨#[99]⟩, ⟨#[114, 101, 102]⟩, ⟨#[120, 49]⟩] wr.heap.size 5 rb a n c q' _ (by simp) (by simp) (by omega) (HRd.out.alloc _) (by omega) (fun i h => strs_atV wr _ _ i h)).mono ?_
            rintro e w1 ⟨i, hi, rfl, hR1, hT1'⟩
            have hT1 : Turns [rb] wr w1 := ((Turns.refl _ _).allocV _).trans hT1'
            obtain ⟨nm, hnm, hnz⟩ : ∃ nm, ([⟨#[97]⟩, ⟨#[98]⟩, ⟨#[99]⟩, ⟨#[114, 101, 102]⟩, ⟨#[120, 49]⟩] : List ByteArray)[i] = nm ∧ nm.size ≤ 1000 := by
              simp at hi
              rcases (show i = 0 ∨ i = 1 ∨ i = 2 ∨ i = 3 ∨ i = 4 by omega) with rfl | rfl | rfl | rfl | rfl
              all_goals exact ⟨_, rfl, by simp only [List.getElem_cons_zero, List.getElem_cons_succ]; decide⟩
            rw [hnm]
            have hrow1 : ∀ b, vb + 1 ≤ b → b < wr.heap.size → w1.heap[b]? = wr.heap[b]? := fun b h1 h2 => hT1.block b h2 (by simp; omega)
            have HM1 : Hid (MkT w1 (vb + 1) (j + 1) l (.slice x l.length xc) xs ns (.slice y ns.length yc)) := HM.out.same hrow1 hT1.size
            have HO1 : Hid (Owns w1 vb #[.int .i64 ((5 : Nat) : Int), .int .i64 0, .string ⟨#[]⟩, .slice x l.length xc, .slice y ns.length yc] 29) := Owns.turnsW hT1 hrv2 HO.out
            have HX1 : Hid (Owns w1 w.heap.size #[.int .i64 0, .int .i64 0, .string ⟨#[]⟩, .slice none 0 0, .slice none 0 0] 29) := Owns.turnsW hT1 (by omega) HX.out
            have HR1 : Hid (RdAt w1 rb a n c (q' + 1)) := hR1
            have HT1 : Hid (Turns [rb] w w1) := HT.out.trans hT1
            clear hnm hi hR1 hT1 hT1' hrow1 HM HO HX HRd HT v0 v1 v2 v3 v4 vz r0 r1 r2 r3 r4 rz
            obtain ⟨⟨v0, v1, v2, v3, v4⟩, vz⟩ := five_zero HO1.out
            go_wp2_with fail
            refine (l2Has_any ns _ nm w1 (strRow_of_owns HM1.out.nown (fun s hs => by have := HSN.out s hs; omega) (by omega))).mono ?_
            rintro e w2 ⟨bh, rfl, -, hb2⟩
            have hrow2 : ∀ b, vb + 1 ≤ b → b < w1.heap.size → w2.heap[b]? = w1.heap[b]? := fun b h1 h2 => hb2.block b h2
            have HM2 : Hid (MkT w2 (vb + 1) (j + 1) l (.slice x l.length xc) xs ns (.slice y ns.length yc)) := HM1.out.same hrow2 hb2.size
            have HO2 : Hid (Owns w2 vb #[.int .i64 ((5 : Nat) : Int), .int .i64 0, .string ⟨#[]⟩, .slice x l.length xc, .slice y ns.length yc] 29) := HO1.out.below hb2 HO1.out.lt
            have HX2 : Hid (Owns w2 w.heap.size #[.int .i64 0, .int .i64 0, .string ⟨#[]⟩, .slice none 0 0, .slice none 0 0] 29) := HX1.out.below hb2 HX1.out.lt
            have HR2 : Hid (RdAt w2 rb a n c (q' + 1)) := HR1.out.grew HR1.out.own.lt HR1.out.lowV (fun q hq => hb2.block q hq)
            have HT2 : Hid (Turns [rb] w w2) := HT1.out.trans (Turns.of_below hb2 (Nat.le_refl _))
            clear hb2 hrow2 HM1 HO1 HX1 HR1 HT1 v0 v1 v2 v3 v4 vz
            cases bh
            rotate_left
            · have HQ' : Hid (q' + 1 + (m' - 1) * (1 + 10 * 4 ^ (j + 1)) ≤ p + 3 + 3 * (1 + 10 * 4 ^ (j + 1))) := by
                have h1 := HQ.out
                have h3 : m' * (1 + 10 * 4 ^ (j + 1)) = (m' - 1) * (1 + 10 * 4 ^ (j + 1)) + (1 + 10 * 4 ^ (j + 1)) := by
                  conv => lhs; rw [show m' = m' - 1 + 1 by omega]
                  rw [Nat.add_mul, Nat.one_mul]
                show _ ≤ _
                omega
              go_wp2_with fail
              go_roundg (m' - 1)
              case rel =>
                refine ⟨l, ns, x, xc, y, yc, q' + 1, xs, ?_, by omega, HNL, HM2, HO2, HX2, HR2, HQ', HT2, HSN, HS⟩
                congr 1; omega
              case measure => omega
            · obtain ⟨⟨v0, v1, v2, v3, v4⟩, vz⟩ := five_zero HO2.out
              have NBn : Hid (some vb ≠ (Value.slice y ns.length yc).ownBlock) := (HM2.out.far (by omega)).2
              have hvl3 := HO2.out.lt
              go_wp2_with (at_builtin; refine wpList_append_lies _ rfl _ _ _ rfl (vb + 1) 9 i1 _ 1 16 Try.underlying23 hj0 hy0 hy1 hy2 rfl (by omega) (.slice y ns.length yc) ns.length (ns.map Value.string) rfl (HM2.out.nown.alloc _) ⟨w2.heap.size, 0, none⟩ 1 1 [.string nm] rfl rfl (World.news_of_block (cs := #[.string nm]) (t := 9) (fr := (0, 0)) (heap_alloc_new w2 _)) (by simp [Value.oneCell']) (by omega) (by unfold maxLen; omega) (by omega) (by simp; omega) (w2.heap.size + 1) (by simp) ?_; intro g cap w3 hown3 hgrow3 hat3 hlt3; have f4 : w3.cell? ⟨vb, 4, none⟩ = some (.slice y ns.length yc) := hgrow3.cell (a := ⟨vb, 4, none⟩) ((World.cell?_alloc_lt _ _ _ hvl3).trans v4) NBn.out; have f4f : w3.frozen? ⟨vb, 4, none⟩ = false := (hgrow3.frozen_far ⟨vb, 4, none⟩ (by simp; omega) NBn.out).trans ((World.frozen?_of_block (w := w2) (Below.heap_alloc _ _ _ hvl3)).trans (vz 4)); have HOWN3 : Hid _ := hown3; have HGR3 : Hid _ := hgrow3; have HAT3 : Hid _ := hat3; clear hown3 hgrow3 hat3)
              have hzg := HGR3.out.size
              simp at hzg
              obtain ⟨W3, hW3⟩ : ∃ W3, W3 = w3.setCell ⟨vb, 4, none⟩ (.slice (some ⟨g, 0, none⟩) (ns.length + 1) cap) := ⟨_, rfl⟩
              rw [← hW3]
              have hns1 : (ns ++ [nm]).length = ns.length + 1 := by simp
              have hW3b : ∀ b, b ≠ vb → W3.heap[b]? = w3.heap[b]? := fun b hb => by rw [hW3]; exact Below.heap_setCell _ _ _ _ hb
              have hW3s : W3.heap.size = w3.heap.size := by rw [hW3]; simp [World.setCell]
              have hM3 : MkT W3 (vb + 1) (j + 1) l (.slice x l.length xc) xs (ns ++ [nm]) (.slice (some ⟨g, 0, none⟩) (ns.length + 1) cap) := HM2.out.name (vb := vb) (by omega) hvl3 HOWN3.out HGR3.out HAT3.out hW3b hW3s
              have hsm3 : ∀ b, b ≤ vb → w3.heap[b]? = w2.heap[b]? := fun b hb => by
                rw [HGR3.out.block b (by simp; omega) (HM2.out.far (by omega)).2, Below.heap_alloc _ _ _ (by omega)]
              have hO3 : Owns W3 vb #[.int .i64 ((5 : Nat) : Int), .int .i64 0, .string ⟨#[]⟩, .slice x l.length xc, .slice (some ⟨g, 0, none⟩) (ns.length + 1) cap] 29 := by rw [hW3]; exact (Owns.sameW HO2.out (hsm3 vb (Nat.le_refl _))).set 4 _
              have hX3 : Owns W3 w.heap.size #[.int .i64 0, .int .i64 0, .string ⟨#[]⟩, .slice none 0 0, .slice none 0 0] 29 := Owns.sameW HX2.out ((hW3b _ hne).trans (hsm3 _ (by omega)))
              have hR3 : RdAt W3 rb a n c (q' + 1) := HR2.out.grew (B := w.heap.size) hrb HLW.out (fun b hb => (hW3b b (by omega)).trans (hsm3 b (by omega)))
              have hT3 : Turns [rb] w W3 := by
                refine ⟨?_, ?_, ?_, by have := HT2.out.size; omega, fun b h1 h2 => ((hW3b b (by omega)).trans (hsm3 b (by omega))).trans (HT2.out.block b h1 h2)⟩
                · rw [hW3]; exact HGR3.out.os.trans HT2.out.os
                · rw [hW3]; exact HGR3.out.tape.trans HT2.out.tape
                · rw [hW3]; exact HGR3.out.output.trans HT2.out.output
              have HM3 : Hid (MkT W3 (vb + 1) (j + 1) l (.slice x l.length xc) xs (ns ++ [nm]) (.slice (some ⟨g, 0, none⟩) (ns.length + 1) cap)) := hM3
              have HO3 : Hid (Owns W3 vb #[.int .i64 ((5 : Nat) : Int), .int .i64 0, .string ⟨#[]⟩, .slice x l.length xc, .slice (some ⟨g, 0, none⟩) (ns.length + 1) cap] 29) := hO3
              have HX3 : Hid (Owns W3 w.heap.size #[.int .i64 0, .int .i64 0, .string ⟨#[]⟩, .slice none 0 0, .slice none 0 0] 29) := hX3
              have HR3 : Hid (RdAt W3 rb a n c (q' + 1)) := hR3
              have HT3 : Hid (Turns [rb] w W3) := hT3
              have HSN3 : Hid (∀ s ∈ ns ++ [nm], s.size ≤ 1000) := fun s hs => by
                rcases List.mem_append.1 hs with h | h
                · exact HSN.out s h
                · simp only [List.mem_singleton] at h; rw [h]; exact hnz
              have HNS1 : Hid ((ns ++ [nm]).length = ns.length + 1) := hns1
              clear hM3 hO3 hX3 hR3 hT3 hW3 hW3b hW3s hsm3 HOWN3 HGR3 HAT3 f4 f4f HM2 HO2 HX2 HR2 HT2 v0 v1 v2 v3 v4 vz NBn hvl3 hlt3 hzg hns1 HSN
              obtain ⟨⟨v0, v1, v2, v3, v4⟩, vz⟩ := five_zero HO3.out
              have hvl3 := HO3.out.lt
              have NBv : Hid (some vb ≠ (Value.slice x l.length xc).ownBlock) := (HM3.out.far (by omega)).1
              have HQ2 : Hid (q' + 1 + 10 * 4 ^ (j + 1) ≤ 1000000) := by
                have h1 := HPW.out
                have h2 := HQ.out
                have h3 : 1 * (1 + 10 * 4 ^ (j + 1)) ≤ m' * (1 + 10 * 4 ^ (j + 1)) := Nat.mul_le_mul_right _ (by omega)
                show _ ≤ _
                omega
              have HCALL : Hid (Calls Try.prog 65 #[.pointer (some ⟨rb, 0, none⟩), .int .i64 ((j : Int) + 1)] W3.drew (fun e w1 => ∃ (t : Vl) (x1 : Option Addr) (c1 : Nat) (y1 : Option Addr) (d1 q1 : Nat),
                  e = .returned (.agg #[.int .i64 t.kind, .int .i64 t.num, .string t.text, .slice x1 t.list.length c1, .slice y1 t.names.length d1]) ∧ w1.cell? ⟨vb, 3, none⟩ = some (.slice x l.length xc) ∧ w1.frozen? ⟨vb, 3, none⟩ = false ∧ vb + 1 ≤ w1.heap.size ∧ vb < w1.heap.size ∧
                  Hid (w1.ownsRow (vb + 1) 29 5 (.slice x l.length xc) l.length xs) ∧ Hid (Turns [rb] W3 w1) ∧ Hid (RdAt w1 rb a n c q1 ∧ q1 ≤ q' + 1 + 10 * 4 ^ (j + 1) ∧ SzLe t (2 * 4 ^ (j + 1))) ∧ Hid (VlJ w1 W3.heap.size w1.heap.size (j + 1) t [.int .i64 t.kind, .int .i64 t.num, .string t.text, .slice x1 t.list.length c1, .slice y1 t.names.length d1]))) := by
                have hc := HIH.out rb a n c (q' + 1) W3.drew HQ2.out ⟨HR3.out.own, HR3.out.len, HR3.out.byte⟩
                rw [show ((j + 1 : Nat) : Int) = (j : Int) + 1 by omega] at hc
                refine hc.mono ?_
                rintro e w1 ⟨t, x1, c1, y1, d1, q1, rfl, hJ, hR1, hq1, hT1, hZ1, -⟩
                have hT1' : Turns [rb] W3 w1 := ⟨hT1.os, hT1.tape, hT1.output, hT1.size, hT1.block⟩
                have hOv1 := Owns.turnsW hT1' hrv2 HO3.out
                have hrow : (∀ b, vb + 1 ≤ b → b < W3.heap.size → w1.heap[b]? = W3.heap[b]?) := fun b h1 h2 => hT1'.block b h2 (by simp; omega)
                exact ⟨t, x1, c1, y1, d1, q1, rfl, hOv1.cell 3, hOv1.frozen 3, hOv1.lt, hOv1.lt, (HM3.out.same hrow hT1.size).own, hT1', ⟨hR1, hq1, hZ1⟩, hJ⟩
              clear HR3
              go_region_law (first
                  | (refine step_append_lies _ (by rfl) _ _ _ (by rfl) (vb + 1) 29 i0 _ 5 80 Try.underlying27 hi0 hz0 hz1 hz2 rfl (by omega) (.slice x l.length xc) l.length xs (by rfl) (HOWN.out.alloc _)
                      ⟨w1.heap.size, 0, none⟩ 1 1 [.int .i64 t.kind, .int .i64 t.num, .string t.text, .slice x1 t.list.length c1, .slice y1 t.names.length d1] (by rfl) (by rfl) (World.news_of_block (cs := #[.int .i64 t.kind, .int .i64 t.num, .string t.text, .slice x1 t.list.length c1, .slice y1 t.names.length d1]) (t := 29) (fr := (0, 0)) (heap_alloc_new w1 _)) (by simp [Value.oneCell'])
                      (by omega) (by unfold maxLen; omega) (by omega) (by simp; omega) (w1.heap.size + 1) (by simp) ?_; intro g2 cap2 w2 hown2 hgrow hat hlt2; have f3' : w2.cell? ⟨vb, 3, none⟩ = some (.slice x l.length xc) := hgrow.cell (a := ⟨vb, 3, none⟩) ((World.cell?_alloc_lt _ _ _ (cell_lt f3)).trans f3) NBv.out; have f3f' : w2.frozen? ⟨vb, 3, none⟩ = false := (hgrow.frozen_far ⟨vb, 3, none⟩ (by simp; omega) NBv.out).trans ((World.frozen?_of_block (w := w1) (Below.heap_alloc _ _ _ (cell_lt f3))).trans f3f))
                  | (go_simp; go_at_call 65; refine (Hid.out HCALL).mono ?_; rintro e w1 ⟨t, x1, c1, y1, d1, q1, rfl, f3, f3f, hsz1, hsz1', HOWN, HT1, HR1, HJ1⟩))
              all_goals
                have hzw := HT1.out.size
                have HM' : Hid (MkT (w2.setCell ⟨vb, 3, none⟩ (.slice (some ⟨g2, 0, none⟩) (l.length + 1) cap2)) (vb + 1) (j + 1) (l ++ [t]) (.slice (some ⟨g2, 0, none⟩) (l.length + 1) cap2) (xs ++ [.int .i64 t.kind, .int .i64 t.num, .string t.text, .slice x1 t.list.length c1, .slice y1 t.names.length d1]) (ns ++ [nm]) (.slice (some ⟨g, 0, none⟩) (ns.length + 1) cap)) :=
                  HM3.out.step (vb := vb) (by omega) hvl3 rfl (fun b h1 h2 => HT1.out.block b h2 (by simp; omega)) hzw HJ1.out hown2 hgrow hat (fun b hb => Below.heap_setCell _ _ _ _ hb) (by simp [World.setCell])
                have hsm : ∀ b, b ≤ vb → b ≠ rb → w2.heap[b]? = W3.heap[b]? := fun b hb hbr => by
                  rw [hgrow.block b (by simp; omega) (HM3.out.far (by omega)).1, Below.heap_alloc _ _ _ (by omega), HT1.out.block b (by omega) (by simpa using hbr)]
                have HO' : Hid (Owns (w2.setCell ⟨vb, 3, none⟩ (.slice (some ⟨g2, 0, none⟩) (l.length + 1) cap2)) vb #[.int .i64 ((5 : Nat) : Int), .int .i64 0, .string ⟨#[]⟩, .slice (some ⟨g2, 0, none⟩) (l.length + 1) cap2, .slice (some ⟨g, 0, none⟩) (ns.length + 1) cap] 29) := (Owns.sameW HO3.out (hsm vb (Nat.le_refl _) hrv2)).set 3 _
                have HX' : Hid (Owns (w2.setCell ⟨vb, 3, none⟩ (.slice (some ⟨g2, 0, none⟩) (l.length + 1) cap2)) w.heap.size #[.int .i64 0, .int .i64 0, .string ⟨#[]⟩, .slice none 0 0, .slice none 0 0] 29) := Owns.sameW HX3.out ((Below.heap_setCell _ _ _ _ (by show w.heap.size ≠ vb; exact hne)).trans (hsm _ (by omega) (by omega)))
                have HR' : Hid (RdAt (w2.setCell ⟨vb, 3, none⟩ (.slice (some ⟨g2, 0, none⟩) (l.length + 1) cap2)) rb a n c q1) := HR1.out.1.grew (B := w.heap.size) hrb HLW.out (fun b hb => by
                  rw [Below.heap_setCell _ _ _ _ (by show b ≠ vb; omega), hgrow.block b (by simp; omega) (HM3.out.far (by omega)).1, Below.heap_alloc _ _ _ (by omega)])
                have HT' : Hid (Turns [rb] w (w2.setCell ⟨vb, 3, none⟩ (.slice (some ⟨g2, 0, none⟩) (l.length + 1) cap2))) := by
                  refine ⟨hgrow.os.trans (HT1.out.os.trans HT3.out.os), hgrow.tape.trans (HT1.out.tape.trans HT3.out.tape), hgrow.output.trans (HT1.out.output.trans HT3.out.output), ?_, fun b h1 h2 => ?_⟩
                  · have h3 := hgrow.size
                    have h4 := HT3.out.size
                    simp [World.setCell] at h3 ⊢
                    omega
                  · rw [Below.heap_setCell _ _ _ _ (by show b ≠ vb; omega), hsm b (by omega) (by simpa using h2)]
                    exact HT3.out.block b h1 h2
                have HQ' : Hid (q1 + (m' - 1) * (1 + 10 * 4 ^ (j + 1)) ≤ p + 3 + 3 * (1 + 10 * 4 ^ (j + 1))) := by
                  have h1 := HQ.out
                  have h2 := HR1.out.2.1
                  have h3 : m' * (1 + 10 * 4 ^ (j + 1)) = (m' - 1) * (1 + 10 * 4 ^ (j + 1)) + (1 + 10 * 4 ^ (j + 1)) := by
                    conv => lhs; rw [show m' = m' - 1 + 1 by omega]
                    rw [Nat.add_mul, Nat.one_mul]
                  show _ ≤ _
                  omega
                have HS' : Hid (SumLe (l ++ [t]) ((l ++ [t]).length * (2 * 4 ^ (j + 1)))) := by
                  have h1 := HS.out.snoc HR1.out.2.2
                  have h2 : (l ++ [t]).length * (2 * 4 ^ (j + 1)) = l.length * (2 * 4 ^ (j + 1)) + 2 * 4 ^ (j + 1) := by
                    rw [List.length_append, List.length_cons, List.length_nil, Nat.add_mul, Nat.zero_add, Nat.one_mul]
                  show SumLe _ _
                  rw [h2]; exact h1
                have HLL : Hid ((l ++ [t]).length = l.length + 1) := by show _ = _; simp
                have HNL' : Hid ((ns ++ [nm]).length = (l ++ [t]).length) := by have h1 := HNL.out; have h2 := HNS1.out; have h3 := Hid.out HLL; show _ = _; omega
                clear HM3 HO3 HX3 HT3 HQ HS HR1 HJ1 HOWN HT1 hgrow hown2 hat hsm HQ2 HCALL v0 v1 v2 v3 v4 vz f3 f3f f3' f3f' HNL
                go_wp2_with fail
                go_roundg (m' - 1)
                case rel =>
                  refine ⟨l ++ [t], ns ++ [nm], some ⟨g2, 0, none⟩, cap2, some ⟨g, 0, none⟩, cap, q1, xs ++ [.int .i64 t.kind, .int .i64 t.num, .string t.text, .slice x1 t.list.length c1, .slice y1 t.names.length d1], ?_, by have h1 := Hid.out HLL; omega, HNL', ?_, ?_, HX', HR', HQ', HT', HSN3, HS'⟩
                  · congr 1; omega
                  · rw [Hid.out HLL, Hid.out HNS1]; exact HM'
                  · rw [Hid.out HLL, Hid.out HNS1]; exact HO'
                case measure => omega

theorem l13Value_all : ∀ k : Nat, k ≤ 6 → SpecDraw k
  | 0, h => l13Value_step 0 (fun j hj => by omega) h
  | k + 1, h => l13Value_step (k + 1) (fun j hj => by
      have hkj : k = j := by omega
      rw [← hkj]
      exact l13Value_all k (by omega)) h

end Go.Proofs.Ytdaohfeajicamaa
