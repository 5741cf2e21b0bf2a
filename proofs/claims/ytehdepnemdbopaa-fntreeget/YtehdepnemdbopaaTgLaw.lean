
/-
  DERIVED. spec.DrawTreeGet, and laws.FnTreeGet: the walks out of the contracts.
-/
import Derived.Test.YtehdepnemdbopaaDrawA
import Derived.Test.YtehdepnemdbopaaTreeGetI
import Derived.Test.YtehdepnemdbopaaSmO
import Derived.Test.YtehdepnemdbopaaSmW
namespace Go.Proofs.Ytehdepnemdbopaa
open Go.RowKit
set_option linter.unusedVariables false
set_option linter.unusedSimpArgs false

/-- A value that was drawn lies at places. -/
theorem VlQ.pl {w : World} {base : Nat} : ∀ (k : Nat) (t : Vl) (x y z vl vn : Value), VlQ w base k t [x, y, z, vl, vn] → PL w k t.list vl ∧ StrRow w 0 t.names vn
  | 0, _, _, _, _, _, _, h => h.elim
  | k + 1, t, x, y, z, vl, vn, h => by
    obtain ⟨vl', vn', e, _, _, _, hrow, hnames, hpl⟩ := h
    simp only [List.cons.injEq, and_true] at e
    obtain ⟨_, _, _, rfl, rfl⟩ := e
    refine ⟨?_, hnames.base (Nat.zero_le _)⟩
    obtain ⟨a, c, hv, h80, hr⟩ := Row.len hrow
    by_cases hne : t.list = []
    · exact Or.inl ⟨hne, a, c, by rw [hv, hne]; rfl⟩
    · obtain ⟨b, off, rfl, _, hc⟩ := hr hne
      obtain ⟨a', n', c', hv', cc, ee, hb⟩ := hpl hne
      rw [hv] at hv'
      simp only [Value.slice.injEq, Option.some.injEq] at hv'
      obtain ⟨rfl, _, _⟩ := hv'
      refine Or.inr ⟨b, off, c, hv, ⟨cc, ee, hb⟩, h80, fun i hi => ?_⟩
      obtain ⟨cs, hl, hcs, hq⟩ := hc i hi
      obtain ⟨p, q, p', q', rfl⟩ := (VlQ.read _ _ _ hq).cells
      obtain ⟨r1, r2⟩ := VlQ.pl k _ _ _ _ _ _ hq
      exact ⟨_, _, hcs, r2, r1⟩

theorem CodeAt.belowT {w w' : World} {a : Option Addr} {n : Nat} (h : CodeAt w a n) (hb : Below w.heap.size w w') : CodeAt w' a n := fun i hi => by
  obtain ⟨b, off, z, h1, h2, h3⟩ := h i hi
  exact ⟨b, off, z, h1, h2, cell_on hb h3⟩

set_option maxHeartbeats 2000000 in
theorem drawTreeGet_any (a : Option Addr) (len cap : Nat) (w : World) (hl : len ≤ 1048576) (hcap : len ≤ cap) (hc : CodeAt w a len) :
    Calls Try.prog 13 #[.slice a len cap] w fun e w' => ∃ (t : Vl) (x : Option Addr) (xc : Nat) (y : Option Addr) (yc : Nat) (s : ByteArray), e = .returned (.tuple #[.agg #[.int .i64 t.kind, .int .i64 t.num, .string t.text, .slice x t.list.length xc, .slice y t.names.length yc], .string s]) ∧
      VlQ w' 0 20 t [.int .i64 t.kind, .int .i64 t.num, .string t.text, .slice x t.list.length xc, .slice y t.names.length yc] ∧ Below w.heap.size w w' ∧ SzLe t 100000 ∧ s.size ≤ 1000 := by
  have HC : Hid (CodeAt w a len) := hc
  clear hc
  go_enter Try.func13, Try.ntmps13
  go_wp2_with fail
  refine (l1Open_any a len cap _ hl hcap (HC.out.belowT ((Below.refl _ _).alloc (Nat.le_refl _) _))).mono ?_
  rintro e w1 ⟨n, rfl, hR, hb⟩
  have hs1 : (w.alloc (.cells #[.int .i64 0, .int .i64 0, .string ⟨#[]⟩, .slice none 0 0, .slice none 0 0] 29)).heap.size = w.heap.size + 1 := by simp
  rw [hs1] at hR hb ⊢
  have hB1 : Below w.heap.size w w1 := ((Below.refl _ _).alloc (Nat.le_refl _) _).trans (hb.mono (by omega))
  have hO1 : Owns w1 w.heap.size #[.int .i64 0, .int .i64 0, .string ⟨#[]⟩, .slice none 0 0, .slice none 0 0] 29 := (Owns.made w _ _).below hb (by omega)
  have HR : Hid (RdAt w1 (w.heap.size + 1) a n cap 0) := hR
  have HB1 : Hid (Below w.heap.size w w1) := hB1
  have HO1 : Hid (Owns w1 w.heap.size #[.int .i64 0, .int .i64 0, .string ⟨#[]⟩, .slice none 0 0, .slice none 0 0] 29) := hO1
  have hrb1 := hR.own.lt
  clear hR hb hs1 hB1 hO1
  go_wp2_with fail
  refine (l13AnyValue_any (w.heap.size + 1) a n cap 0 w1 (by omega) HR.out).mono ?_
  rintro e w2 ⟨t, x, xc, y, yc, p', rfl, hQ, hR2, hp', hT2, hZ⟩
  have hw1 : w.heap.size < w1.heap.size := HO1.out.lt
  have HO2 : Hid (Owns w2 w.heap.size #[.int .i64 0, .int .i64 0, .string ⟨#[]⟩, .slice none 0 0, .slice none 0 0] 29) := Owns.turnsW hT2 (by omega) HO1.out
  have HT2 : Hid (Turns [w.heap.size + 1] w1 w2) := hT2
  have HR2 : Hid (RdAt w2 (w.heap.size + 1) a n cap p') := hR2
  have HQ : Hid (VlQ w2 w1.heap.size 20 t [.int .i64 t.kind, .int .i64 t.num, .string t.text, .slice x t.list.length xc, .slice y t.names.length yc]) := hQ
  have HZ : Hid (SzLe t 100000) := hZ
  have hrb2 := hR2.own.lt
  clear hQ hR2 hT2 hZ HR HO1
  go_wp2_with fail
  refine (of_any [⟨#[97]⟩, ⟨#[98]⟩, ⟨#[99]⟩, ⟨#[114, 101, 102]⟩] w2.heap.size 4 (w.heap.size + 1) a n cap p' _ (by simp) (by simp) (by omega) (HR2.out.alloc _) (by omega) (fun i h => strs_atV w2 _ _ i h)).mono ?_
  rintro e w3 ⟨i, hi, rfl, hR3, hT3'⟩
  have hT3 : Turns [w.heap.size + 1] w2 w3 := ((Turns.refl _ _).allocV _).trans hT3'
  obtain ⟨s, hs, hsz⟩ : ∃ s, ([⟨#[97]⟩, ⟨#[98]⟩, ⟨#[99]⟩, ⟨#[114, 101, 102]⟩] : List ByteArray)[i] = s ∧ s.size ≤ 1000 := by
    simp at hi
    rcases (show i = 0 ∨ i = 1 ∨ i = 2 ∨ i = 3 by omega) with rfl | rfl | rfl | rfl
    all_goals exact ⟨_, rfl, by simp only [List.getElem_cons_zero, List.getElem_cons_succ]; decide⟩
  rw [hs]
  obtain ⟨⟨r0, r1, r2, r3, r4⟩, rz⟩ := five_zero (Owns.turnsW hT3 (by omega) HO2.out)
  have HB3 : Hid (Below w.heap.size w w3) := by
    have hT := HT2.out.trans hT3
    exact ⟨hT.os.trans HB1.out.os, hT.tape.trans HB1.out.tape, hT.output.trans HB1.out.output, Nat.le_trans HB1.out.size hT.size, fun b hb => (hT.block b (by have := HB1.out.size; omega) (by simp; omega)).trans (HB1.out.block b hb)⟩
  have HQ3 : Hid (VlQ w3 w1.heap.size 20 t [.int .i64 t.kind, .int .i64 t.num, .string t.text, .slice x t.list.length xc, .slice y t.names.length yc]) := VlQ.keeps ⟨hT3.size, fun k h1 h2 => hT3.block k h2 (by simp; omega)⟩ _ _ _ HQ.out
  clear hs hi hR3 hT3 hT3' HQ HR2 HT2 HO2 HB1
  go_wp2_with fail
  refine bodyPost_ret (v := .tuple #[.agg #[.int .i64 t.kind, .int .i64 t.num, .string t.text, .slice x t.list.length xc, .slice y t.names.length yc], .string s]) (by simp [results, Try.results13, go_sem, r0, r1, r2, r3, r4]) rfl ?_
  have hk : Keeps w1.heap.size w3 (w3.setCells w.heap.size 0 [.int .i64 t.kind, .int .i64 t.num, .string t.text, .slice x t.list.length xc, .slice y t.names.length yc]) := ⟨by rw [size_setCells]; exact Nat.le_refl _, fun k h1 _ => heap_setCells_ne _ _ _ _ (by omega)⟩
  exact ⟨t, x, xc, y, yc, s, rfl, VlQ.base (Nat.zero_le _) _ _ _ (VlQ.keeps hk _ _ _ HQ3.out), Below.setCells (Nat.le_refl _) [.int .i64 t.kind, .int .i64 t.num, .string t.text, .slice x t.list.length xc, .slice y t.names.length yc] 0 HB3.out, HZ.out, hsz⟩

end Go.Proofs.Ytehdepnemdbopaa
