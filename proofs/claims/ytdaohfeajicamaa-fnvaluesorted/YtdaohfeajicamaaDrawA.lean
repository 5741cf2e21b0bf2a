
/-
  DERIVED. THE WALK OF spec.l13AnyValue.
-/
import Derived.Test.YtdaohfeajicamaaDrawL
import Derived.Test.YtdaohfeajicamaaDrawU
namespace Go.Proofs.Ytdaohfeajicamaa
open Go.RowKit
set_option linter.unusedVariables false
set_option linter.unusedSimpArgs false

/-- A value was drawn, whatever it is. -/
def GotVl (rb : Nat) (a : Option Addr) (n c p : Nat) (w : World) (e : Ending) (w' : World) : Prop :=
  ∃ (t : Vl) (x : Option Addr) (xc : Nat) (y : Option Addr) (yc p' : Nat), e = .returned (.agg #[.int .i64 t.kind, .int .i64 t.num, .string t.text, .slice x t.list.length xc, .slice y t.names.length yc]) ∧
    VlQ w' w.heap.size 20 t [.int .i64 t.kind, .int .i64 t.num, .string t.text, .slice x t.list.length xc, .slice y t.names.length yc] ∧ RdAt w' rb a n c p' ∧ p' ≤ p + 200000 ∧ Turns [rb] w w' ∧ SzLe t 100000

/-- The box V holds it. -/
structure InBox (rb : Nat) (a : Option Addr) (n c q : Nat) (w wr : World) (lo V K m : Nat) (t : Vl) (x : Option Addr) (xc : Nat) (y : Option Addr) (yc : Nat) : Prop where
  val : VlX wr lo V K t [.int .i64 t.kind, .int .i64 t.num, .string t.text, .slice x t.list.length xc, .slice y t.names.length yc]
  box : Owns wr V #[.int .i64 t.kind, .int .i64 t.num, .string t.text, .slice x t.list.length xc, .slice y t.names.length yc] 29
  res : Owns wr w.heap.size #[.int .i64 0, .int .i64 0, .string ⟨#[]⟩, .slice none 0 0, .slice none 0 0] 29
  rd : RdAt wr rb a n c q
  turns : Turns [rb] w wr
  sz : SzLe t m

theorem InBox.fin {rb : Nat} {a : Option Addr} {n c p q : Nat} {w wr : World} {lo V K m : Nat} {t : Vl} {x : Option Addr} {xc : Nat} {y : Option Addr} {yc : Nat} (h : InBox rb a n c q w wr lo V K m t x xc y yc) (hrb : rb < w.heap.size) (hlow : LowV a n w.heap.size) (hlo : w.heap.size < lo) (hK : K ≤ 20) (hm : m ≤ 100000) (hq : q ≤ p + 200000) :
    GotVl rb a n c p w (.returned (.agg #[.int .i64 t.kind, .int .i64 t.num, .string t.text, .slice x t.list.length xc, .slice y t.names.length yc])) (wr.setCells w.heap.size 0 [.int .i64 t.kind, .int .i64 t.num, .string t.text, .slice x t.list.length xc, .slice y t.names.length yc]) :=
  ⟨t, x, xc, y, yc, q, rfl, VlQ.base (Nat.le_of_lt hlo) _ _ _ (VlQ.le hK (h.val _ (fun b h1 h2 h3 => heap_setCells_ne _ _ _ _ (by omega)))), h.rd.grew (B := w.heap.size) hrb hlow (fun q hq => heap_setCells_ne _ _ _ _ (by omega)), hq, Turns.setNewV (Nat.le_refl _) _ _ h.turns, fun sz hs => Nat.le_trans (h.sz sz hs) hm⟩

/-- Behind a call that turned the reader alone. -/
theorem InBox.turned {rb : Nat} {a : Option Addr} {n c q q' : Nat} {w wr w2 : World} {lo V K m : Nat} {t : Vl} {x : Option Addr} {xc : Nat} {y : Option Addr} {yc : Nat} (h : InBox rb a n c q w wr lo V K m t x xc y yc) (hT : Turns [rb] wr w2) (hR : RdAt w2 rb a n c q') (h1 : rb < w.heap.size) (h2 : w.heap.size < lo) (h3 : w.heap.size < V) : InBox rb a n c q' w w2 lo V K m t x xc y yc :=
  ⟨h.val.same hT.size (fun b g1 g2 g3 => hT.block b g2 (by simp; omega)), Owns.turnsW hT (by omega) h.box, Owns.turnsW hT (by omega) h.res, hR, h.turns.trans hT, h.sz⟩

/-- The head is another one, by a store into the box. -/
theorem InBox.store {rb : Nat} {a : Option Addr} {n c q : Nat} {w wr : World} {lo V K m : Nat} {t : Vl} {x : Option Addr} {xc : Nat} {y : Option Addr} {yc : Nat} (h : InBox rb a n c q w wr lo V K m t x xc y yc) (h1 : rb < w.heap.size) (hlow : LowV a n w.heap.size) (h3 : w.heap.size < V) {kd nm : Int} {tx : ByteArray} (g1 : I64 kd) (g2 : I64 nm) (g3 : tx.size ≤ 140737488351232) {i : Nat} {u : Value}
    (hu : (#[.int .i64 t.kind, .int .i64 t.num, .string t.text, .slice x t.list.length xc, .slice y t.names.length yc] : Array Value).setIfInBounds i u = #[.int .i64 kd, .int .i64 nm, .string tx, .slice x t.list.length xc, .slice y t.names.length yc]) :
    InBox rb a n c q w (wr.setCell ⟨V, i, none⟩ u) lo V K m ⟨kd, nm, tx, t.list, t.names⟩ x xc y yc := by
  have hs : (wr.setCell ⟨V, i, none⟩ u).heap.size = wr.heap.size := by simp [World.setCell]
  refine ⟨(h.val.head g1 g2 g3).same (by omega) (fun b _ _ h4 => Below.heap_setCell _ _ _ _ h4), ?_, Owns.sameW h.res (Below.heap_setCell _ _ _ _ (by show w.heap.size ≠ V; omega)), h.rd.grew (B := w.heap.size) h1 hlow (fun q hq => Below.heap_setCell _ _ _ _ (by show q ≠ V; omega)), Turns.setNewV (b := V) (by omega) [u] i h.turns, fun sz hs => ?_⟩
  · have := h.box.set i u
    rw [hu] at this
    exact this
  · have h5 := h.sz sz hs
    rw [hs t] at h5
    rw [hs]
    exact h5

theorem setCells_allocV (b : Nat) (o : Obj) : ∀ (cs : List Value) (i : Nat) (w : World), b < w.heap.size → (w.alloc o).setCells b i cs = (w.setCells b i cs).alloc o
  | [], _, _, _ => rfl
  | v :: r, i, w, h => by
    show ((w.alloc o).setCell ⟨b, i, none⟩ v).setCells b (i + 1) r = ((w.setCell ⟨b, i, none⟩ v).setCells b (i + 1) r).alloc o
    rw [World.setCell_alloc_past _ _ _ _ h, setCells_allocV b o r (i + 1) _ (by simp [World.setCell]; exact h)]
theorem putAt_five (x0 x1 x2 x3 x4 y0 y1 y2 y3 y4 : Value) : putAt #[x0, x1, x2, x3, x4] 0 [y0, y1, y2, y3, y4] = #[y0, y1, y2, y3, y4] := by simp [putAt]
theorem InBox.wrap {rb : Nat} {a : Option Addr} {n c q : Nat} {w wr : World} {lo V K m : Nat} {t : Vl} {x : Option Addr} {xc : Nat} {y : Option Addr} {yc : Nat} (h : InBox rb a n c q w wr lo V K m t x xc y yc) (h1 : rb < w.heap.size) (hlow : LowV a n w.heap.size) (h3 : w.heap.size < V) (hlo : lo ≤ wr.heap.size) :
    InBox rb a n c q w ((wr.setCells V 0 [.int .i64 4, .int .i64 0, .string ⟨#[]⟩, .slice (some ⟨wr.heap.size, 0, none⟩) 1 1, .slice none 0 0]).alloc (.cells #[.int .i64 t.kind, .int .i64 t.num, .string t.text, .slice x t.list.length xc, .slice y t.names.length yc] 29)) lo V (K + 1) (m + 2) ⟨4, 0, ⟨#[]⟩, [t], []⟩ (some ⟨wr.heap.size, 0, none⟩) 1 none 0 := by
  have hV := h.box.lt
  rw [← setCells_allocV V _ _ 0 wr hV]
  refine ⟨(h.val.wrap hlo hV).same (by rw [size_setCells]; exact Nat.le_refl _) (fun b _ _ h4 => heap_setCells_ne _ _ _ _ h4), ?_, Owns.sameW h.res ((heap_setCells_ne _ _ _ _ (by omega)).trans (Below.heap_alloc _ _ _ h.res.lt)), h.rd.grew (B := w.heap.size) h1 hlow (fun q hq => (heap_setCells_ne _ _ _ _ (by omega)).trans (Below.heap_alloc _ _ _ (by omega))), Turns.setNewV (b := V) (by omega) _ _ (h.turns.allocV _), fun sz hs => ?_⟩
  · have h5 := Owns.sameW (w' := wr.alloc (.cells #[.int .i64 t.kind, .int .i64 t.num, .string t.text, .slice x t.list.length xc, .slice y t.names.length yc] 29)) h.box (Below.heap_alloc _ _ _ hV)
    have h6 := Owns.setCells [.int .i64 4, .int .i64 0, .string ⟨#[]⟩, .slice (some ⟨wr.heap.size, 0, none⟩) 1 1, .slice none 0 0] 0 h5
    rw [putAt_five] at h6
    exact h6
  · have h5 := h.sz sz hs
    rw [hs]
    simp only [sumL]
    omega

set_option maxHeartbeats 8000000 in
set_option maxRecDepth 100000 in
theorem l13AnyValue_any (rb : Nat) (a : Option Addr) (n c p : Nat) (w : World) (hp : p ≤ 700000) (hR : RdAt w rb a n c p) :
    Calls Try.prog 43 #[.pointer (some ⟨rb, 0, none⟩)] w (GotVl rb a n c p w) := by
  have HR : Hid (RdAt w rb a n c p) := hR
  have hrb := hR.own.lt
  have HLW : Hid (LowV a n w.heap.size) := hR.lowV
  clear hR
  go_enter Try.func43, Try.ntmps43
  go_wp2_with fail
  refine (one_any [1, 2, 3, 3, 6] (w.heap.size + 1) 5 rb a n c p _ (by simp) (by simp) (by omega) ((HR.out.alloc _).alloc _) (by omega) (fun i h => by have := ints_atV (w.alloc (.cells #[.int .i64 0, .int .i64 0, .string ⟨#[]⟩, .slice none 0 0, .slice none 0 0] 29)) [1, 2, 3, 3, 6] 3 i h; rw [show (w.alloc (.cells #[.int .i64 0, .int .i64 0, .string ⟨#[]⟩, .slice none 0 0, .slice none 0 0] 29)).heap.size = w.heap.size + 1 by simp] at this; exact this)).mono ?_
  rintro e w1 ⟨j, hj, rfl, hR1, hT1⟩
  obtain ⟨m0, hm0, hmj⟩ : ∃ m : Nat, m ≤ 5 ∧ ([1, 2, 3, 3, 6] : List Int)[j] = ((m + 1 : Nat) : Int) := by
    simp at hj
    rcases (show j = 0 ∨ j = 1 ∨ j = 2 ∨ j = 3 ∨ j = 4 by omega) with rfl | rfl | rfl | rfl | rfl
    all_goals first | exact ⟨0, by omega, rfl⟩ | exact ⟨1, by omega, rfl⟩ | exact ⟨2, by omega, rfl⟩ | exact ⟨5, by omega, rfl⟩
  rw [hmj]
  have HR1 : Hid (RdAt w1 rb a n c (p + 1)) := hR1
  have HT1 : Hid (Turns [rb] w w1) := (((Turns.refl _ _).allocV _).allocV _).trans hT1
  have HO1 : Hid (Owns w1 w.heap.size #[.int .i64 0, .int .i64 0, .string ⟨#[]⟩, .slice none 0 0, .slice none 0 0] 29) := by
    have h := (Owns.made w #[.int .i64 0, .int .i64 0, .string ⟨#[]⟩, .slice none 0 0, .slice none 0 0] 29)
    show Owns _ _ _ _
    unfold Owns at h ⊢
    rw [hT1.block _ (by simp <;> omega) (by simp; omega), Below.heap_alloc _ _ _ (by simp)]
    exact h
  have hpw : 4 ^ (m0 + 1) ≤ 4 ^ 6 := Nat.pow_le_pow_right (by omega) (by omega)
  have hpw2 : (4 : Nat) ^ 6 = 4096 := by decide
  clear hR1 hT1 HR hmj hj
  go_wp2_with fail
  refine (l13Value_all m0 (by omega) rb a n c (p + 1) w1 (by omega) HR1.out).mono ?_
  rintro e w2 ⟨t, x, xc, y, yc, q, rfl, hJ, hR2, hq2, hT2, hZ2, ⟨xs, hMT⟩, hi1, hi2, hi3, hl3, hn3, hns, hsum⟩
  have hq : q ≤ p + 50000 := by omega
  have hzt : SzLe t 10000 := fun sz hs => by have := hZ2 sz hs; omega
  have hzl : SumLe t.list 10000 := fun sz hs => by have := hsum sz hs; omega
  have hs1 : w.heap.size < w1.heap.size := HO1.out.lt
  have hs2 := hT2.size
  obtain ⟨W3, hW3⟩ : ∃ W3, W3 = w2.alloc (.cells #[.int .i64 t.kind, .int .i64 t.num, .string t.text, .slice x t.list.length xc, .slice y t.names.length yc] 29) := ⟨_, rfl⟩
  have hMV : MkV W3 (w1.heap.size + 1) 6 t.list (.slice x t.list.length xc) xs t.names (.slice y t.names.length yc) w2.heap.size := by rw [hW3]; exact MkV.ofT (hMT.deeper (by omega)) _
  have hIB : InBox rb a n c q w W3 (w1.heap.size + 1) w2.heap.size 7 10000 t x xc y yc := by
    refine ⟨hMV.value hi1 hi2 hi3 (by omega) (by omega) (fun s hs => by have := hns s hs; omega), by rw [hW3]; exact Owns.made _ _ _, by rw [hW3]; exact Owns.sameW (Owns.turnsW hT2 (by omega) HO1.out) (Below.heap_alloc _ _ _ (by omega)), by rw [hW3]; exact hR2.alloc _, by rw [hW3]; exact (HT1.out.trans hT2).allocV _, hzt⟩
  have HMV : Hid (MkV W3 (w1.heap.size + 1) 6 t.list (.slice x t.list.length xc) xs t.names (.slice y t.names.length yc) w2.heap.size) := hMV
  have HIB : Hid (InBox rb a n c q w W3 (w1.heap.size + 1) w2.heap.size 7 10000 t x xc y yc) := hIB
  have HI : Hid (I64 t.kind ∧ I64 t.num ∧ t.text.size ≤ 140737488351232 ∧ t.list.length ≤ 3 ∧ t.names.length ≤ 3 ∧ (∀ s ∈ t.names, s.size ≤ 1000) ∧ SumLe t.list 10000) := ⟨hi1, hi2, hi3, hl3, hn3, hns, hzl⟩
  have hvl : w2.heap.size < W3.heap.size := by rw [hW3]; simp
  clear hJ hR2 hq2 hT2 hZ2 hMT hi1 hi2 hi3 hns hsum hzt hzl hMV hIB HR1 HT1 HO1 hpw hpw2
  go_upto_region 2 with fail
  rw [← hW3]
  clear hW3
  obtain ⟨V, hV⟩ : ∃ V, w2.heap.size = V := ⟨_, rfl⟩
  obtain ⟨lo, hlo⟩ : ∃ lo, w1.heap.size + 1 = lo := ⟨_, rfl⟩
  rw [hV] at HMV HIB hvl hs2 ⊢
  rw [hlo] at HMV HIB
  have hlo1 : w.heap.size < lo := by omega
  have hlo2 : lo ≤ V + 1 := by omega
  have hwV : w.heap.size < V := by omega
  clear hV hlo hs2
  go_wp2_with fail
  refine (pick_any 16 rb a n c q _ (by omega) (by omega) (by omega) HIB.out.rd).mono ?_
  rintro e w3 ⟨sw, hsw, rfl, hR3, hT3⟩
  have HIB3 : Hid (InBox rb a n c (q + 1) w w3 lo V 7 10000 t x xc y yc) := HIB.out.turned hT3 hR3 hrb hlo1 hwV
  have HMV3 : Hid (MkV w3 lo 6 t.list (.slice x t.list.length xc) xs t.names (.slice y t.names.length yc) V) := HMV.out.same (fun b h1 h2 h3 => hT3.block b h2 (by simp; omega)) hT3.size
  have hvl3 : V < w3.heap.size := HIB3.out.box.lt
  clear hR3 hT3 HIB HMV hvl
  obtain ⟨⟨v0, v1, v2, v3, v4⟩, vz⟩ := five_zero HIB3.out.box
  obtain ⟨⟨r0, r1, r2, r3, r4⟩, rz⟩ := five_zero HIB3.out.res
  have hne : w.heap.size ≠ V := by omega
  have hsi : (sw : Int) < 16 := by omega
  by_cases h6 : 6 ≤ sw
  · have e0 : ((sw : Int) == 0) = false := by simp; omega
    have e1 : ((sw : Int) == 1) = false := by simp; omega
    have e2 : ((sw : Int) == 2) = false := by simp; omega
    have e3 : ((sw : Int) == 3) = false := by simp; omega
    have e4 : ((sw : Int) == 4) = false := by simp; omega
    have e5 : ((sw : Int) == 5) = false := by simp; omega
    go_wp2_with fail
    refine bodyPost_ret (v := .agg #[.int .i64 t.kind, .int .i64 t.num, .string t.text, .slice x t.list.length xc, .slice y t.names.length yc]) (by simp [results, Try.results43, go_sem, r0, r1, r2, r3, r4]) rfl ?_
    exact HIB3.out.fin hrb HLW.out hlo1 (by omega) (by omega) (by omega)
  rcases (show sw = 0 ∨ sw = 1 ∨ sw = 2 ∨ sw = 3 ∨ sw = 4 ∨ sw = 5 by omega) with rfl | rfl | rfl | rfl | rfl | rfl
  · go_wp2_with fail
    refine (one_any [-1, 8, 6, 7, 4, 5] w3.heap.size 6 rb a n c (q + 1) _ (by simp) (by simp) (by omega) (HIB3.out.rd.alloc _) (by omega) (fun i h => ints_atV w3 _ _ i h)).mono ?_
    rintro e w4 ⟨i, hi, rfl, hR4, hT4'⟩
    have hT4 : Turns [rb] w3 w4 := ((Turns.refl _ _).allocV _).trans hT4'
    obtain ⟨z, hz, hz1, hz2⟩ : ∃ z : Int, ([-1, 8, 6, 7, 4, 5] : List Int)[i] = z ∧ -3000000000 ≤ z ∧ z ≤ 3000000000 := by
      simp at hi
      rcases (show i = 0 ∨ i = 1 ∨ i = 2 ∨ i = 3 ∨ i = 4 ∨ i = 5 by omega) with rfl | rfl | rfl | rfl | rfl | rfl
      all_goals exact ⟨_, rfl, by simp, by simp⟩
    rw [hz]
    have HIB4 : Hid (InBox rb a n c (q + 1 + 1) w w4 lo V 7 10000 t x xc y yc) := HIB3.out.turned hT4 hR4 hrb hlo1 hwV
    clear hz hi hT4' hT4 hR4 v0 v1 v2 v3 v4 vz r0 r1 r2 r3 r4 rz HIB3 HMV3
    obtain ⟨⟨v0, v1, v2, v3, v4⟩, vz⟩ := five_zero HIB4.out.box
    obtain ⟨⟨r0, r1, r2, r3, r4⟩, rz⟩ := five_zero HIB4.out.res
    go_wp2_with fail
    refine bodyPost_ret (v := .agg #[.int .i64 z, .int .i64 t.num, .string t.text, .slice x t.list.length xc, .slice y t.names.length yc]) (by simp [results, Try.results43, go_sem, r0, r1, r2, r3, r4, hne]) rfl ?_
    exact (HIB4.out.store hrb HLW.out hwV (i64_smallD hz1 hz2) HI.out.2.1 HI.out.2.2.1 (i := 0) (u := .int .i64 z) rfl).fin hrb HLW.out hlo1 (by omega) (by omega) (by omega)
  · go_wp2_with fail
    refine (one_any [2, 2147483648, -5] w3.heap.size 3 rb a n c (q + 1) _ (by simp) (by simp) (by omega) (HIB3.out.rd.alloc _) (by omega) (fun i h => ints_atV w3 _ _ i h)).mono ?_
    rintro e w4 ⟨i, hi, rfl, hR4, hT4'⟩
    have hT4 : Turns [rb] w3 w4 := ((Turns.refl _ _).allocV _).trans hT4'
    obtain ⟨z, hz, hz1, hz2⟩ : ∃ z : Int, ([2, 2147483648, -5] : List Int)[i] = z ∧ -3000000000 ≤ z ∧ z ≤ 3000000000 := by
      simp at hi
      rcases (show i = 0 ∨ i = 1 ∨ i = 2 by omega) with rfl | rfl | rfl
      all_goals exact ⟨_, rfl, by simp, by simp⟩
    rw [hz]
    have HIB4 : Hid (InBox rb a n c (q + 1 + 1) w w4 lo V 7 10000 t x xc y yc) := HIB3.out.turned hT4 hR4 hrb hlo1 hwV
    clear hz hi hT4' hT4 hR4 v0 v1 v2 v3 v4 vz r0 r1 r2 r3 r4 rz HIB3 HMV3
    obtain ⟨⟨v0, v1, v2, v3, v4⟩, vz⟩ := five_zero HIB4.out.box
    obtain ⟨⟨r0, r1, r2, r3, r4⟩, rz⟩ := five_zero HIB4.out.res
    go_wp2_with fail
    refine bodyPost_ret (v := .agg #[.int .i64 t.kind, .int .i64 z, .string t.text, .slice x t.list.length xc, .slice y t.names.length yc]) (by simp [results, Try.results43, go_sem, r0, r1, r2, r3, r4, hne]) rfl ?_
    exact (HIB4.out.store hrb HLW.out hwV HI.out.1 (i64_smallD hz1 hz2) HI.out.2.2.1 (i := 1) (u := .int .i64 z) rfl).fin hrb HLW.out hlo1 (by omega) (by omega) (by omega)
  · go_wp2_with fail
    refine (pick_any 2 rb a n c (q + 1) _ (by omega) (by omega) (by omega) HIB3.out.rd).mono ?_
    rintro e w4 ⟨z, hz, rfl, hR4, hT4⟩
    have HIB4 : Hid (InBox rb a n c (q + 1 + 1) w w4 lo V 7 10000 t x xc y yc) := HIB3.out.turned hT4 hR4 hrb hlo1 hwV
    clear hT4 hR4 v0 v1 v2 v3 v4 vz r0 r1 r2 r3 r4 rz HIB3 HMV3
    obtain ⟨⟨v0, v1, v2, v3, v4⟩, vz⟩ := five_zero HIB4.out.box
    obtain ⟨⟨r0, r1, r2, r3, r4⟩, rz⟩ := five_zero HIB4.out.res
    have hc := l1Many_any ⟨#[121]⟩ (40 + z) w4 (by decide) (by omega)
    rw [show ((40 + z : Nat) : Int) = 40 + (z : Int) by omega] at hc
    have HC : Hid (Calls Try.prog 67 #[.string ⟨#[121]⟩, .int .i64 (40 + (z : Int))] w4 fun e w' => ∃ r : ByteArray, e = .returned (.string r) ∧ r.size ≤ 140737488351232 ∧ w' = w4) := hc
    have hzi : (z : Int) < 2 := by omega
    clear hc
    go_wp2_with fail
    refine (Hid.out HC).mono ?_
    rintro e w5 ⟨tx, rfl, htx, rfl⟩
    go_wp2_with fail
    refine bodyPost_ret (v := .agg #[.int .i64 t.kind, .int .i64 t.num, .string tx, .slice x t.list.length xc, .slice y t.names.length yc]) (by simp [results, Try.results43, go_sem, r0, r1, r2, r3, r4, hne]) rfl ?_
    exact (HIB4.out.store hrb HLW.out hwV HI.out.1 HI.out.2.1 htx (i := 2) (u := .string tx) rfl).fin hrb HLW.out hlo1 (by omega) (by omega) (by omega)
  · clear v0 v1 v2 v3 v4 vz r0 r1 r2 r3 r4 rz HMV3
    go_wp2_with fail
    go_loopg [4] 8 (fun k v wr => ∃ (i : Nat) (t : Vl) (x : Option Addr) (xc : Nat) (y : Option Addr) (yc q' : Nat), v = .int .i64 (i : Int) ∧ i + k = 8 ∧ i ≤ 7 ∧ Hid (InBox rb a n c q' w wr lo V (7 + i) (10000 + 2 * i) t x xc y yc) ∧ q' ≤ q + 1 + i)
    case atStart => exact ⟨0, t, x, xc, y, yc, q + 1, rfl, by omega, by omega, HIB3, by omega⟩
    case round =>
      rename Nat => k
      clear HIB3 HI
      obtain ⟨i, t, x, xc, y, yc, q', rfl, hik, hi7, HIB, hq'⟩ := hrel
      have hi7i : (i : Int) ≤ 7 := by omega
      go_wp2_with fail
      refine (pick_any 2 rb a n c q' _ (by omega) (by omega) (by omega) HIB.out.rd).mono ?_
      rintro e w4 ⟨z, hz, rfl, hR4, hT4⟩
      have HIB4 : Hid (InBox rb a n c (q' + 1) w w4 lo V (7 + i) (10000 + 2 * i) t x xc y yc) := HIB.out.turned hT4 hR4 hrb hlo1 hwV
      have hzi : (z : Int) < 2 := by omega
      clear hT4 hR4 HIB
      obtain ⟨⟨v0, v1, v2, v3, v4⟩, vz⟩ := five_zero HIB4.out.box
      obtain ⟨⟨r0, r1, r2, r3, r4⟩, rz⟩ := five_zero HIB4.out.res
      have hvl4 : V < w4.heap.size := HIB4.out.box.lt
      by_cases hgo : (i : Int) < 6 + (z : Int)
      · have HW : Hid (InBox rb a n c (q' + 1) w ((w4.setCells V 0 [.int .i64 4, .int .i64 0, .string ⟨#[]⟩, .slice (some ⟨w4.heap.size, 0, none⟩) 1 1, .slice none 0 0]).alloc (.cells #[.int .i64 t.kind, .int .i64 t.num, .string t.text, .slice x t.list.length xc, .slice y t.names.length yc] 29)) lo V (7 + (i + 1)) (10000 + 2 * (i + 1)) ⟨4, 0, ⟨#[]⟩, [t], []⟩ (some ⟨w4.heap.size, 0, none⟩) 1 none 0) := HIB4.out.wrap hrb HLW.out hwV (by omega)
        go_wp2_with fail
        go_roundg (k - 1)
        case rel => exact ⟨i + 1, _, _, _, _, _, q' + 1, by go_num, by omega, by omega, HW, by omega⟩
        case measure => omega
      · go_wp2_with fail
        refine bodyPost_ret (v := .agg #[.int .i64 t.kind, .int .i64 t.num, .string t.text, .slice x t.list.length xc, .slice y t.names.length yc]) (by simp [results, Try.results43, go_sem, r0, r1, r2, r3, r4]) rfl ?_
        exact HIB4.out.fin hrb HLW.out hlo1 (by omega) (by omega) (by omega)
  · have NBn : Hid (some V ≠ (Value.slice y t.names.length yc).ownBlock) := fun he => HMV3.out.off.2 V he.symm rfl
    have hn3' : t.names.length ≤ 3 := HI.out.2.2.2.2.1
    obtain ⟨i1, hj0, hy0, hy1, hy2⟩ := info_stringD
    have HCALL : Hid (Calls Try.prog 68 #[.pointer (some ⟨rb, 0, none⟩), .slice (some ⟨w3.heap.size, 0, none⟩) 3 3] (w3.alloc (.cells #[.string ⟨#[97]⟩, .string ⟨#[98]⟩, .string ⟨#[49]⟩] 9)).drew (fun e w4 => ∃ nm : ByteArray,
        e = .returned (.string nm) ∧ w4.cell? ⟨V, 4, none⟩ = some (.slice y t.names.length yc) ∧ w4.frozen? ⟨V, 4, none⟩ = false ∧ V < w4.heap.size ∧ lo ≤ w4.heap.size ∧
        Hid (MkV w4 lo 6 t.list (.slice x t.list.length xc) xs t.names (.slice y t.names.length yc) V) ∧ Hid (InBox rb a n c (q + 1 + 1) w w4 lo V 7 10000 t x xc y yc) ∧ Hid (nm.size ≤ 1000))) := by
      have hc := of_any [⟨#[97]⟩, ⟨#[98]⟩, ⟨#[49]⟩] w3.heap.size 3 rb a n c (q + 1) (w3.alloc (.cells #[.string ⟨#[97]⟩, .string ⟨#[98]⟩, .string ⟨#[49]⟩] 9)).drew (by simp) (by simp) (by omega) (RdAt.drewN (HIB3.out.rd.alloc _) 1) (by omega) (fun i h => strs_atV w3 [⟨#[97]⟩, ⟨#[98]⟩, ⟨#[49]⟩] 9 i h)
      refine hc.mono ?_
      rintro e w4 ⟨i, hi, rfl, hR4, hT4'⟩
      have hT4 : Turns [rb] w3 w4 := ((Turns.refl _ _).allocV _).trans ⟨hT4'.os, hT4'.tape, hT4'.output, hT4'.size, hT4'.block⟩
      have hib := HIB3.out.turned hT4 hR4 hrb hlo1 hwV
      refine ⟨_, rfl, hib.box.cell 4, hib.box.frozen 4, hib.box.lt, by have := hib.box.lt; omega, HMV3.out.same (fun b h1 h2 h3 => hT4.block b h2 (by simp; omega)) hT4.size, hib, ?_⟩
      show _ ≤ _
      simp at hi
      rcases (show i = 0 ∨ i = 1 ∨ i = 2 by omega) with rfl | rfl | rfl
      all_goals (simp only [List.getElem_cons_zero, List.getElem_cons_succ]; decide)
    go_wp2_with fail
    go_region_law (first
        | (refine step_append_lies _ (by rfl) _ _ _ (by rfl) lo 9 i1 _ 1 16 Try.underlying23 hj0 hy0 hy1 hy2 rfl (by omega) (.slice y t.names.length yc) t.names.length (t.names.map Value.string) (by rfl) (HM4.out.nown.alloc _)
            ⟨w4.heap.size, 0, none⟩ 1 1 [.string nm] (by rfl) (by rfl) (World.news_of_block (cs := #[.string nm]) (t := 9) (fr := (0, 0)) (heap_alloc_new w4 _)) (by simp [Value.oneCell'])
            (by omega) (by unfold maxLen; omega) (by omega) (by simp; omega) (w4.heap.size + 1) (by simp) ?_; intro g cap w5 hown5 hgrow5 hat5 hlt5; have f4' : w5.cell? ⟨V, 4, none⟩ = some (.slice y t.names.length yc) := hgrow5.cell (a := ⟨V, 4, none⟩) ((World.cell?_alloc_lt _ _ _ (cell_lt f4)).trans f4) NBn.out; have f4f' : w5.frozen? ⟨V, 4, none⟩ = false := (hgrow5.frozen_far ⟨V, 4, none⟩ (by simp; omega) NBn.out).trans ((World.frozen?_of_block (w := w4) (Below.heap_alloc _ _ _ (cell_lt f4))).trans f4f))
        | (go_simp; go_at_call 68; refine (Hid.out HCALL).mono ?_; rintro e w4 ⟨nm, rfl, f4, f4f, hsz4, hsz4', HM4, HB4, HNM⟩))
    all_goals
      have hzg := hgrow5.size
      simp at hzg
      have hM6 : MkV (w5.setCell ⟨V, 4, none⟩ (.slice (some ⟨g, 0, none⟩) (t.names.length + 1) cap)) lo 6 t.list (.slice x t.list.length xc) xs (t.names ++ [nm]) (.slice (some ⟨g, 0, none⟩) (t.names.length + 1) cap) V := HM4.out.name hsz4 hsz4' hown5 hgrow5 hat5 (fun b hb => Below.heap_setCell _ _ _ _ hb) (by simp [World.setCell])
      have hsm5 : ∀ b, b < lo ∨ b = V → w5.heap[b]? = w4.heap[b]? := fun b hb => by
        have hfar : some b ≠ (Value.slice y t.names.length yc).ownBlock := fun he => by
          rcases hb with hb | hb
          · have := (HM4.out.nown.lt b he.symm).1; omega
          · exact HM4.out.off.2 b he.symm hb
        rw [hgrow5.block b (by simp; omega) hfar, Below.heap_alloc _ _ _ (by omega)]
      have hns1 : (t.names ++ [nm]).length = t.names.length + 1 := by simp
      have hib : InBox rb a n c (q + 1 + 1) w (w5.setCell ⟨V, 4, none⟩ (.slice (some ⟨g, 0, none⟩) (t.names.length + 1) cap)) lo V 7 10000 ⟨t.kind, t.num, t.text, t.list, t.names ++ [nm]⟩ x xc (some ⟨g, 0, none⟩) cap := by
        refine ⟨?_, ?_, Owns.sameW HB4.out.res ((Below.heap_setCell _ _ _ _ hne).trans (hsm5 _ (Or.inl (by omega)))), HB4.out.rd.grew (B := w.heap.size) hrb HLW.out (fun b hb => (Below.heap_setCell _ _ _ _ (by show b ≠ V; omega)).trans (hsm5 b (Or.inl (by omega)))), ?_, fun sz hs => ?_⟩
        · show VlX _ _ _ _ _ [_, _, _, _, .slice (some ⟨g, 0, none⟩) (t.names ++ [nm]).length cap]
          rw [hns1]
          exact hM6.value HI.out.1 HI.out.2.1 HI.out.2.2.1 (by have := HI.out.2.2.2.1; omega) (by rw [hns1]; omega) (fun s hs => by
            rcases List.mem_append.1 hs with h | h
            · have := HI.out.2.2.2.2.2.1 s h; omega
            · simp only [List.mem_singleton] at h; rw [h]; have := HNM.out; omega)
        · show Owns _ _ #[_, _, _, _, .slice (some ⟨g, 0, none⟩) (t.names ++ [nm]).length cap] _
          rw [hns1]
          exact (Owns.sameW HB4.out.box (hsm5 V (Or.inr rfl))).set 4 _
        · refine ⟨hgrow5.os.trans HB4.out.turns.os, hgrow5.tape.trans HB4.out.turns.tape, hgrow5.output.trans HB4.out.turns.output, ?_, fun b h1 h2 => ((Below.heap_setCell _ _ _ _ (by show b ≠ V; omega)).trans (hsm5 b (Or.inl (by omega)))).trans (HB4.out.turns.block b h1 h2)⟩
          have := HB4.out.turns.size
          simp [World.setCell]
          omega
        · have h5 := HB4.out.sz sz hs
          rw [hs t] at h5
          rw [hs]
          exact h5
      have HIBF : Hid (InBox rb a n c (q + 1 + 1) w (w5.setCell ⟨V, 4, none⟩ (.slice (some ⟨g, 0, none⟩) (t.names.length + 1) cap)) lo V 7 10000 ⟨t.kind, t.num, t.text, t.list, t.names ++ [nm]⟩ x xc (some ⟨g, 0, none⟩) cap) := hib
      have HNS1 : Hid ((t.names ++ [nm]).length = t.names.length + 1) := hns1
      clear hM6 hsm5 hns1 hgrow5 hown5 hat5 HM4 HB4 HCALL HIB3 HMV3 v0 v1 v2 v3 v4 vz r0 r1 r2 r3 r4 rz f4 f4f f4' f4f' hib hzg
      obtain ⟨⟨v0, v1, v2, v3, v4⟩, vz⟩ := five_zero (Hid.out HIBF).box
      obtain ⟨⟨r0, r1, r2, r3, r4⟩, rz⟩ := five_zero (Hid.out HIBF).res
      simp only [Hid.out HNS1] at v4
      go_wp2_with fail
      refine bodyPost_ret (v := .agg #[.int .i64 t.kind, .int .i64 t.num, .string t.text, .slice x t.list.length xc, .slice (some ⟨g, 0, none⟩) (t.names.length + 1) cap]) (by simp [results, Try.results43, go_sem, r0, r1, r2, r3, r4]) rfl ?_
      have hfin := (Hid.out HIBF).fin (p := p) hrb HLW.out hlo1 (by omega) (by omega) (by omega)
      simp only [Hid.out HNS1] at hfin
      exact hfin
  · have HO0 : Hid (Owns w3 V #[.int .i64 t.kind, .int .i64 t.num, .string t.text, .slice x t.list.length xc, .slice y t.names.length yc] 29) := HIB3.out.box
    obtain ⟨W4, hW4⟩ : ∃ W4, W4 = (((w3.setCell ⟨V, 0, none⟩ (.int .i64 4)).setCell ⟨V, 4, none⟩ (.slice none 0 0)).setCell ⟨V, 2, none⟩ (.string ⟨#[]⟩)).setCell ⟨V, 1, none⟩ (.int .i64 0) := ⟨_, rfl⟩
    have hb4 : ∀ b, b ≠ V → W4.heap[b]? = w3.heap[b]? := fun b hb => by
      rw [hW4, Below.heap_setCell _ _ _ _ hb, Below.heap_setCell _ _ _ _ hb, Below.heap_setCell _ _ _ _ hb, Below.heap_setCell _ _ _ _ hb]
    have hz4 : W4.heap.size = w3.heap.size := by rw [hW4]; simp [World.setCell]
    have hO4 : Owns W4 V #[.int .i64 4, .int .i64 0, .string ⟨#[]⟩, .slice x t.list.length xc, .slice none 0 0] 29 := by
      have h := (((HO0.out.set 0 (.int .i64 4)).set 4 (.slice none 0 0)).set 2 (.string ⟨#[]⟩)).set 1 (.int .i64 0)
      rw [hW4]
      simpa using h
    have hX4 : Owns W4 w.heap.size #[.int .i64 0, .int .i64 0, .string ⟨#[]⟩, .slice none 0 0, .slice none 0 0] 29 := Owns.sameW HIB3.out.res (hb4 _ hne)
    have hM4 : MkV W4 lo 6 t.list (.slice x t.list.length xc) xs [] (.slice none 0 0) V := HMV3.out.bare.same (fun b _ _ h => hb4 b h) (by omega)
    have hR4 : RdAt W4 rb a n c (q + 1) := HIB3.out.rd.grew (B := w.heap.size) hrb HLW.out (fun b hb => hb4 b (by omega))
    have hT4 : Turns [rb] w W4 := by
      rw [hW4]
      exact Turns.setNewV (b := V) (by omega) [.int .i64 0] 1 (Turns.setNewV (b := V) (by omega) [.string ⟨#[]⟩] 2 (Turns.setNewV (b := V) (by omega) [.slice none 0 0] 4 (Turns.setNewV (b := V) (by omega) [.int .i64 4] 0 HIB3.out.turns)))
    have HO4 : Hid (Owns W4 V #[.int .i64 4, .int .i64 0, .string ⟨#[]⟩, .slice x t.list.length xc, .slice none 0 0] 29) := hO4
    have HX4 : Hid (Owns W4 w.heap.size #[.int .i64 0, .int .i64 0, .string ⟨#[]⟩, .slice none 0 0, .slice none 0 0] 29) := hX4
    have HM4 : Hid (MkV W4 lo 6 t.list (.slice x t.list.length xc) xs [] (.slice none 0 0) V) := hM4
    have HR4 : Hid (RdAt W4 rb a n c (q + 1)) := hR4
    have HT4 : Hid (Turns [rb] w W4) := hT4
    have HSM : Hid (SumLe t.list (10000 + 2 * t.list.length)) := fun sz hs => by have := HI.out.2.2.2.2.2.2 sz hs; omega
    have HW4 : Hid (W4 = (((w3.setCell ⟨V, 0, none⟩ (.int .i64 4)).setCell ⟨V, 4, none⟩ (.slice none 0 0)).setCell ⟨V, 2, none⟩ (.string ⟨#[]⟩)).setCell ⟨V, 1, none⟩ (.int .i64 0)) := hW4
    have hl3 : t.list.length ≤ 3 := HI.out.2.2.2.1
    clear hO4 hX4 hM4 hR4 hT4 hb4 hz4 hW4 HMV3 HIB3 HO0 HI
    obtain ⟨i0, hi0, hz0, hz1, hz2⟩ := info_impl_ValueD
    go_wp2_with fail
    rw [← HW4.out]
    clear HW4 v0 v1 v2 v3 v4 vz r0 r1 r2 r3 r4 rz
    go_loopg [59] (14 - t.list.length) (fun k v wr => ∃ (l : List Vl) (x : Option Addr) (xc q' : Nat) (xs : List Value), l.length + k = 14 ∧ l.length ≤ 13 ∧ Hid (MkV wr lo 6 l (.slice x l.length xc) xs [] (.slice none 0 0) V) ∧ Hid (Owns wr V #[.int .i64 4, .int .i64 0, .string ⟨#[]⟩, .slice x l.length xc, .slice none 0 0] 29) ∧ Hid (Owns wr w.heap.size #[.int .i64 0, .int .i64 0, .string ⟨#[]⟩, .slice none 0 0, .slice none 0 0] 29) ∧ Hid (RdAt wr rb a n c q') ∧ q' + k ≤ q + 15 ∧ Hid (Turns [rb] w wr) ∧ Hid (SumLe l (10000 + 2 * l.length)))
    case atStart => exact ⟨t.list, x, xc, q + 1, xs, by omega, by omega, HM4, HO4, HX4, HR4, by omega, HT4, HSM⟩
    case round =>
      rename Nat => k
      clear HM4 HO4 HX4 HR4 HT4 HSM
      obtain ⟨l, x, xc, q', xs, hlk, hl13, HM, HO, HX, HRd, hq', HT, HS⟩ := hrel
      obtain ⟨⟨v0, v1, v2, v3, v4⟩, vz⟩ := five_zero HO.out
      have hvl4 : V < wr.heap.size := HO.out.lt
      have hl13i : (l.length : Int) ≤ 13 := by omega
      go_upto_region 21 with fail
      go_cut [65] from 59 to 71 (fun v wx => ∃ (z : Nat), z < 2 ∧ v = .bool (decide ((l.length : Int) < 12 + (z : Int))) ∧ Hid (RdAt wx rb a n c (q' + 1)) ∧ Hid (Turns [rb] wr wx))
      case first =>
        go_region_with (go_at_call 56; refine (pick_any 2 rb a n c q' wr.drew (by omega) (by omega) (by omega) (RdAt.drewN HRd.out 1)).mono ?_; rintro e w4 ⟨z, hz, rfl, hR4, hT4⟩; have hT4' : Turns [rb] wr w4 := ⟨hT4.os, hT4.tape, hT4.output, hT4.size, hT4.block⟩; have y3 : w4.cell? ⟨V, 3, none⟩ = some (.slice x l.length xc) := (Owns.turnsW hT4' (by omega) HO.out).cell 3; have hzi : (z : Int) < 2 := (by omega); have HR4 : Hid (RdAt w4 rb a n c (q' + 1)) := hR4; have HT4 : Hid (Turns [rb] wr w4) := hT4'; clear hR4 hT4 hT4')
        all_goals
          go_wp2_with fail
          go_meet
          case rel => exact ⟨z, hz, (by rw [show IntKind.i64.wrap (12 + (z : Int)) = 12 + (z : Int) from by rw [IntKind.wrap_i64]; omega]), HR4, HT4⟩
      case rest =>
        obtain ⟨z, hz, rfl, HR4, HT4⟩ := hcut
        have hrow4 : ∀ b, lo ≤ b → b < wr.heap.size → b ≠ V → wc.heap[b]? = wr.heap[b]? := fun b h1 h2 h3 => HT4.out.block b h2 (by simp; omega)
        have HM5 : Hid (MkV wc lo 6 l (.slice x l.length xc) xs [] (.slice none 0 0) V) := HM.out.same hrow4 HT4.out.size
        have HO5 : Hid (Owns wc V #[.int .i64 4, .int .i64 0, .string ⟨#[]⟩, .slice x l.length xc, .slice none 0 0] 29) := Owns.turnsW HT4.out (by omega) HO.out
        have HX5 : Hid (Owns wc w.heap.size #[.int .i64 0, .int .i64 0, .string ⟨#[]⟩, .slice none 0 0, .slice none 0 0] 29) := Owns.turnsW HT4.out (by omega) HX.out
        have HT5 : Hid (Turns [rb] w wc) := HT.out.trans HT4.out
        clear hrow4 HM HO HX HT HRd HT4 v0 v1 v2 v3 v4 vz
        obtain ⟨⟨v0, v1, v2, v3, v4⟩, vz⟩ := five_zero HO5.out
        obtain ⟨⟨r0, r1, r2, r3, r4⟩, rz⟩ := five_zero HX5.out
        have hvl5 : V < wc.heap.size := HO5.out.lt
        by_cases hgo : (l.length : Int) < 12 + (z : Int)
        · have NBv : Hid (some V ≠ (Value.slice x l.length xc).ownBlock) := fun he => HM5.out.off.1 V he.symm rfl
          go_wp2_with (at_builtin; refine wpList_append_lies _ rfl _ _ _ rfl lo 29 i0 _ 5 80 Try.underlying27 hi0 hz0 hz1 hz2 rfl (by omega) (.slice x l.length xc) l.length xs rfl (HM5.out.own.alloc _) ⟨wc.heap.size, 0, none⟩ 1 1 [.int .i64 0, .int .i64 0, .string ⟨#[]⟩, .slice none 0 0, .slice none 0 0] rfl rfl (World.news_of_block (cs := #[.int .i64 0, .int .i64 0, .string ⟨#[]⟩, .slice none 0 0, .slice none 0 0]) (t := 29) (fr := (0, 0)) (heap_alloc_new wc _)) (by simp [Value.oneCell']) (by omega) (by unfold maxLen; omega) (by omega) (by simp; omega) (wc.heap.size + 1) (by simp) ?_; intro g cap w5 hown5 hgrow5 hat5 hlt5; have f3 : w5.cell? ⟨V, 3, none⟩ = some (.slice x l.length xc) := hgrow5.cell (a := ⟨V, 3, none⟩) ((World.cell?_alloc_lt _ _ _ hvl5).trans v3) NBv.out; have f3f : w5.frozen? ⟨V, 3, none⟩ = false := (hgrow5.frozen_far ⟨V, 3, none⟩ (by simp; omega) NBv.out).trans ((World.frozen?_of_block (w := wc) (Below.heap_alloc _ _ _ hvl5)).trans (vz 3)); have HOWN5 : Hid _ := hown5; have HGR5 : Hid _ := hgrow5; have HAT5 : Hid _ := hat5; clear hown5 hgrow5 hat5)
          have hzg := HGR5.out.size
          simp at hzg
          have hM6 : MkV (w5.setCell ⟨V, 3, none⟩ (.slice (some ⟨g, 0, none⟩) (l.length + 1) cap)) lo 6 (l ++ [⟨0, 0, ⟨#[]⟩, [], []⟩]) (.slice (some ⟨g, 0, none⟩) (l.length + 1) cap) (xs ++ [.int .i64 0, .int .i64 0, .string ⟨#[]⟩, .slice none 0 0, .slice none 0 0]) [] (.slice none 0 0) V := HM5.out.zero (k := 5) hvl5 (by omega) HOWN5.out HGR5.out HAT5.out (fun b hb => Below.heap_setCell _ _ _ _ hb) (by simp [World.setCell])
          have hsm5 : ∀ b, b < lo ∨ b = V → w5.heap[b]? = wc.heap[b]? := fun b hb => by
            have hfar : some b ≠ (Value.slice x l.length xc).ownBlock := fun he => by
              rcases hb with hb | hb
              · have := (HM5.out.own.lt b he.symm).1; omega
              · exact HM5.out.off.1 b he.symm hb
            rw [HGR5.out.block b (by simp; omega) hfar, Below.heap_alloc _ _ _ (by omega)]
          have hO6 : Owns (w5.setCell ⟨V, 3, none⟩ (.slice (some ⟨g, 0, none⟩) (l.length + 1) cap)) V #[.int .i64 4, .int .i64 0, .string ⟨#[]⟩, .slice (some ⟨g, 0, none⟩) (l.length + 1) cap, .slice none 0 0] 29 := (Owns.sameW HO5.out (hsm5 V (Or.inr rfl))).set 3 _
          have hX6 : Owns (w5.setCell ⟨V, 3, none⟩ (.slice (some ⟨g, 0, none⟩) (l.length + 1) cap)) w.heap.size #[.int .i64 0, .int .i64 0, .string ⟨#[]⟩, .slice none 0 0, .slice none 0 0] 29 := Owns.sameW HX5.out ((Below.heap_setCell _ _ _ _ hne).trans (hsm5 _ (Or.inl (by omega))))
          have hR6 : RdAt (w5.setCell ⟨V, 3, none⟩ (.slice (some ⟨g, 0, none⟩) (l.length + 1) cap)) rb a n c (q' + 1) := HR4.out.grew (B := w.heap.size) hrb HLW.out (fun b hb => (Below.heap_setCell _ _ _ _ (by show b ≠ V; omega)).trans (hsm5 b (Or.inl (by omega))))
          have hT6 : Turns [rb] w (w5.setCell ⟨V, 3, none⟩ (.slice (some ⟨g, 0, none⟩) (l.length + 1) cap)) := by
            refine ⟨HGR5.out.os.trans HT5.out.os, HGR5.out.tape.trans HT5.out.tape, HGR5.out.output.trans HT5.out.output, ?_, fun b h1 h2 => ((Below.heap_setCell _ _ _ _ (by show b ≠ V; omega)).trans (hsm5 b (Or.inl (by omega)))).trans (HT5.out.block b h1 h2)⟩
            have := HT5.out.size
            simp [World.setCell]
            omega
          have hS6 : SumLe (l ++ [⟨0, 0, ⟨#[]⟩, [], []⟩]) (10000 + 2 * (l.length + 1)) := fun sz hs => by
            have h1 := (HS.out.snoc (x := ⟨0, 0, ⟨#[]⟩, [], []⟩) (q := 2) (fun sz hs => by rw [hs]; simp [sumL])) sz hs
            omega
          have hll : (l ++ [(⟨0, 0, ⟨#[]⟩, [], []⟩ : Vl)]).length = l.length + 1 := by simp
          go_roundg (k - 1)
          case rel =>
            refine ⟨l ++ [⟨0, 0, ⟨#[]⟩, [], []⟩], some ⟨g, 0, none⟩, cap, q' + 1, xs ++ [.int .i64 0, .int .i64 0, .string ⟨#[]⟩, .slice none 0 0, .slice none 0 0], by omega, by omega, ?_, ?_, hX6, hR6, by omega, hT6, ?_⟩
            · rw [hll]; exact hM6
            · rw [hll]; exact hO6
            · rw [hll]; exact hS6
          case measure => omega
        · go_wp2_with fail
          refine bodyPost_ret (v := .agg #[.int .i64 4, .int .i64 0, .string ⟨#[]⟩, .slice x l.length xc, .slice none 0 0]) (by simp [results, Try.results43, go_sem, r0, r1, r2, r3, r4]) rfl ?_
          have hib : InBox rb a n c (q' + 1) w wc lo V 7 (10000 + 2 * l.length + 2) ⟨4, 0, ⟨#[]⟩, l, []⟩ x xc none 0 := ⟨HM5.out.value (show I64 (4 : Int) from i64_smallD (by decide) (by decide)) (show I64 (0 : Int) from i64_smallD (by decide) (by decide)) (show (⟨#[]⟩ : ByteArray).size ≤ _ from by decide) (by omega) (by simp) (by simp), HO5.out, HX5.out, HR4.out, HT5.out, SumLe.value HS.out⟩
          exact hib.fin hrb HLW.out hlo1 (by omega) (by omega) (by omega)

end Go.Proofs.Ytdaohfeajicamaa
