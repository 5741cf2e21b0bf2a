
/-
  DERIVED. spec.DrawValueSame: two values that are drawn, and what laws.FnValueSame asks of them.
-/
import Derived.Test.YtegnalfkdponhaaDoorDrawA
import Derived.Test.YtegnalfkdponhaaDoorVlCopyW
import Derived.Test.YtegnalfkdponhaaDoorVlOkC
import Derived.Test.YtegnalfkdponhaaDoorSameSp
import Derived.Test.YtegnalfkdponhaaDoorSmO
import Derived.Test.YtegnalfkdponhaaDoorSmW
import Derived.Test.YtegnalfkdponhaaDoorJpSame
import Derived.Test.YtegnalfkdponhaaDoorJpF
import Derived.Deep.RegionHeld3
import Derived.Lib.QuietBelow
namespace Go.Proofs.YtegnalfkdponhaaDoor
open Go.RowKit
set_option linter.unusedVariables false
set_option linter.unusedSimpArgs false

/-- A value that was drawn lies at places. -/
theorem VlQ.pl {w : World} {base : Nat} : ∀ (k : Nat) (t : Vl) (x y z vl vn : Value), VlQ w base k t [x, y, z, vl, vn] → PL w k t.list vl ∧ StrRow w 0 t.names vn
  | 0, _, _, _, _, _, _, h => h.elim
  | k + 1, t, x, y, z, vl, vn, h => by
    obtain ⟨vl', vn', e, _, _, _, hrow, hnames, hpl⟩ := h
    simp only [List.cons.injEq, and_true] at e
    obtain ⟨_, _, _, rfl, rfl⟩ := e
    refine ⟨?_, hnames.base (Nat.zero_le _)⟩
    obtain ⟨a, c, hv, h80, hr⟩ := Row.len hrow
    by_cases hne : t.list = []
    · exact Or.inl ⟨hne, a, c, by rw [hv, hne]; rfl⟩
    · obtain ⟨b, off, rfl, _, hc⟩ := hr hne
      obtain ⟨a', n', c', hv', cc, ee, hb⟩ := hpl hne
      rw [hv] at hv'
      simp only [Value.slice.injEq, Option.some.injEq] at hv'
      obtain ⟨rfl, _, _⟩ := hv'
      refine Or.inr ⟨b, off, c, hv, ⟨cc, ee, hb⟩, h80, fun i hi => ?_⟩
      obtain ⟨cs, hl, hcs, hq⟩ := hc i hi
      obtain ⟨p, q, p', q', rfl⟩ := (VlQ.read _ _ _ hq).cells
      obtain ⟨r1, r2⟩ := VlQ.pl k _ _ _ _ _ _ hq
      exact ⟨_, _, hcs, r2, r1⟩

theorem CodeAt.belowT {w w' : World} {a : Option Addr} {n : Nat} (h : CodeAt w a n) (hb : Below w.heap.size w w') : CodeAt w' a n := fun i hi => by
  obtain ⟨b, off, z, h1, h2, h3⟩ := h i hi
  exact ⟨b, off, z, h1, h2, cell_on hb h3⟩

theorem five_ofT {W : World} {b : Nat} {x0 x1 x2 x3 x4 : Value} (h : ∀ o, W.cell? ⟨b, o, none⟩ = #[x0, x1, x2, x3, x4][o]?) :
    W.cell? ⟨b, 0, none⟩ = some x0 ∧ W.cell? ⟨b, 1, none⟩ = some x1 ∧ W.cell? ⟨b, 2, none⟩ = some x2 ∧ W.cell? ⟨b, 3, none⟩ = some x3 ∧ W.cell? ⟨b, 4, none⟩ = some x4 := ⟨h 0, h 1, h 2, h 3, h 4⟩
theorem keeps_belowT {w W W' : World} (h : Keeps 0 w W) (hb : Below W.heap.size W W') : Keeps 0 w W' := h.trans (Keeps.of_below hb (Nat.le_refl _) 0)
theorem owns_keepsT {w W : World} {b : Nat} {c : Array Value} {e : TypeId} (h : Owns w b c e) (hk : Keeps 0 w W) : Owns W b c e := by
  have hl := h.lt
  unfold Owns at h ⊢
  rw [hk.block b (Nat.zero_le _) hl]; exact h
theorem PL.keeps {w W : World} (h : Keeps 0 w W) : ∀ (k : Nat) (l : List Vl) (v : Value), PL w k l v → PL W k l v
  | 0, _, _, hp => hp
  | k + 1, l, v, hp => by
    rcases hp with hp | ⟨b, off, c, h1, h2, h3, h4⟩
    · exact Or.inl hp
    · refine Or.inr ⟨b, off, c, h1, ?_, h3, fun i hi => ?_⟩
      · obtain ⟨cc, e, hp⟩ := h2
        refine ⟨cc, e, ?_⟩
        rw [h.block _ (Nat.zero_le _) ?_]; exact hp
        by_cases hx : b < w.heap.size
        · exact hx
        · simp only at hp; rw [Array.getElem?_eq_none (by omega)] at hp; simp at hp
      · obtain ⟨vl, vn, d1, d2, d3⟩ := h4 i hi
        exact ⟨vl, vn, d1.keeps h (Nat.zero_le _), d2.keeps h, PL.keeps h k _ _ d3⟩

set_option maxHeartbeats 1000000 in
theorem specVS (k : Nat) (t u : Vl) (vl vn vl' vn' : Value) (w : World) (ht : VlR w 0 k t [.int .i64 t.kind, .int .i64 t.num, .string t.text, vl, vn]) (hu : VlR w 0 k u [.int .i64 u.kind, .int .i64 u.num, .string u.text, vl', vn']) :
    Calls Tryd.prog 15 #[.agg #[.int .i64 t.kind, .int .i64 t.num, .string t.text, vl, vn], .agg #[.int .i64 u.kind, .int .i64 u.num, .string u.text, vl', vn']] w (SameAns t u w) := by
  have HT : Hid _ := ht
  have HU : Hid _ := hu
  clear ht hu
  go_enter Tryd.func15, Tryd.ntmps15
  go_wp2_with fail
  refine (specSm_all k t u _ _ _ _ _ (VlR.keeps (((Keeps.refl _ _).alloc _).alloc _) k _ _ HT.out) (VlR.keeps (((Keeps.refl _ _).alloc _).alloc _) k _ _ HU.out)).mono ?_
  rintro e w1 ⟨b, rfl, hb, hb1⟩
  have HB : Hid (Below w.heap.size w w1) := (two_below _ _ _).trans (hb1.mono (by simp <;> omega))
  have HH : Hid (b = true ↔ t = u) := hb
  clear hb1 hb
  go_wp2_with fail
  go_ret
  exact ⟨b, rfl, HH.out, HB.out⟩


theorem Owns.allocS {w : World} {b : Nat} {c : Array Value} {e : TypeId} (h : Owns w b c e) (o : Obj) : Owns (w.alloc o) b c e := h.below ((Below.refl (b + 1) w).alloc (by have := h.lt; omega) o) (by omega)
theorem Owns.turnsS {rb : Nat} {w w' : World} (h : Turns [rb] w w') {b : Nat} {c : Array Value} {e : TypeId} (hb : b ≠ rb) (ho : Owns w b c e) : Owns w' b c e := Owns.turnsW h hb ho

/-- Two values that were drawn. -/
def DrawnTwo (w : World) (e : Ending) (w' : World) : Prop :=
  ∃ (t : Vl) (x : Option Addr) (xc : Nat) (y : Option Addr) (yc : Nat) (u : Vl) (x' : Option Addr) (xc' : Nat) (y' : Option Addr) (yc' : Nat), e = .returned (.tuple #[.agg #[.int .i64 t.kind, .int .i64 t.num, .string t.text, .slice x t.list.length xc, .slice y t.names.length yc], .agg #[.int .i64 u.kind, .int .i64 u.num, .string u.text, .slice x' u.list.length xc', .slice y' u.names.length yc']]) ∧
      VlQ w' 0 20 t [.int .i64 t.kind, .int .i64 t.num, .string t.text, .slice x t.list.length xc, .slice y t.names.length yc] ∧ VlQ w' 0 20 u [.int .i64 u.kind, .int .i64 u.num, .string u.text, .slice x' u.list.length xc', .slice y' u.names.length yc'] ∧ Below w.heap.size w w' ∧ SzLe t 100000 ∧ SzLe u 100000

set_option maxHeartbeats 4000000 in
theorem drawValueSame_any (a : Option Addr) (len cap : Nat) (w : World) (hl : len ≤ 1048576) (hcap : len ≤ cap) (hc : CodeAt w a len) :
    Calls Tryd.prog 13 #[.slice a len cap] w (DrawnTwo w) := by
  have HC : Hid (CodeAt w a len) := hc
  clear hc
  go_enter Tryd.func13, Tryd.ntmps13
  go_wp2_with fail
  refine (l1Open_any a len cap _ hl hcap (HC.out.belowT (two_below _ _ _))).mono ?_
  rintro e w1 ⟨n, rfl, hR, hb⟩
  have hs1 : ((w.alloc (.cells #[.int .i64 0, .int .i64 0, .string ⟨#[]⟩, .slice none 0 0, .slice none 0 0] 30)).alloc (.cells #[.int .i64 0, .int .i64 0, .string ⟨#[]⟩, .slice none 0 0, .slice none 0 0] 30)).heap.size = w.heap.size + 2 := by simp
  rw [hs1] at hR hb ⊢
  have hB1 : Below w.heap.size w w1 := (two_below w _ _).trans (hb.mono (by omega))
  have hO1 : Owns w1 w.heap.size #[.int .i64 0, .int .i64 0, .string ⟨#[]⟩, .slice none 0 0, .slice none 0 0] 30 := ((Owns.made w _ _).allocS _).below hb (by omega)
  have hO1' : Owns w1 (w.heap.size + 1) #[.int .i64 0, .int .i64 0, .string ⟨#[]⟩, .slice none 0 0, .slice none 0 0] 30 := by
    have h := Owns.made (w.alloc (.cells #[.int .i64 0, .int .i64 0, .string ⟨#[]⟩, .slice none 0 0, .slice none 0 0] 30)) #[.int .i64 0, .int .i64 0, .string ⟨#[]⟩, .slice none 0 0, .slice none 0 0] 30
    rw [show (w.alloc (.cells #[.int .i64 0, .int .i64 0, .string ⟨#[]⟩, .slice none 0 0, .slice none 0 0] 30)).heap.size = w.heap.size + 1 by simp] at h
    exact h.below hb (by omega)
  have HR : Hid (RdAt w1 (w.heap.size + 2) a n cap 0) := hR
  have HB1 : Hid (Below w.heap.size w w1) := hB1
  have HO1 : Hid (Owns w1 w.heap.size #[.int .i64 0, .int .i64 0, .string ⟨#[]⟩, .slice none 0 0, .slice none 0 0] 30) := hO1
  have HO1' : Hid (Owns w1 (w.heap.size + 1) #[.int .i64 0, .int .i64 0, .string ⟨#[]⟩, .slice none 0 0, .slice none 0 0] 30) := hO1'
  have hrb1 := hR.own.lt
  clear hR hb hs1 hB1 hO1 hO1'
  go_wp2_with fail
  refine (l13AnyValue_any (w.heap.size + 2) a n cap 0 w1 (by omega) HR.out).mono ?_
  rintro e w2 ⟨t, x, xc, y, yc, p', rfl, hQ, hR2, hp', hT2, hZ⟩
  have HO2 : Hid (Owns w2 w.heap.size #[.int .i64 0, .int .i64 0, .string ⟨#[]⟩, .slice none 0 0, .slice none 0 0] 30) := Owns.turnsW hT2 (by omega) HO1.out
  have HO2' : Hid (Owns w2 (w.heap.size + 1) #[.int .i64 0, .int .i64 0, .string ⟨#[]⟩, .slice none 0 0, .slice none 0 0] 30) := Owns.turnsW hT2 (by omega) HO1'.out
  have HT2 : Hid (Turns [w.heap.size + 2] w1 w2) := hT2
  have HR2 : Hid (RdAt w2 (w.heap.size + 2) a n cap p') := hR2
  have HQ : Hid (VlQ w2 w1.heap.size 20 t [.int .i64 t.kind, .int .i64 t.num, .string t.text, .slice x t.list.length xc, .slice y t.names.length yc]) := hQ
  have HZ : Hid (SzLe t 100000) := hZ
  have hrb2 := hR2.own.lt
  have hsz2 := hT2.size
  clear hQ hR2 hT2 hZ HR HO1 HO1'
  obtain ⟨W2, hW2⟩ : ∃ W2, W2 = w2.alloc (.cells #[.int .i64 t.kind, .int .i64 t.num, .string t.text, .slice x t.list.length xc, .slice y t.names.length yc] 30) := ⟨_, rfl⟩
  have HW2 : Hid (W2 = w2.alloc (.cells #[.int .i64 t.kind, .int .i64 t.num, .string t.text, .slice x t.list.length xc, .slice y t.names.length yc] 30)) := hW2
  clear hW2
  go_wp2_with fail
  rw [← HW2.out]
  refine (pick_any 2 (w.heap.size + 2) a n cap p' W2 (by omega) (by omega) (by omega) (by rw [HW2.out]; exact HR2.out.alloc _)).mono ?_
  rintro e w3 ⟨q, hq, rfl, hR3, hT3⟩
  have hbox2 : Owns W2 w2.heap.size #[.int .i64 t.kind, .int .i64 t.num, .string t.text, .slice x t.list.length xc, .slice y t.names.length yc] 30 := by rw [HW2.out]; exact Owns.made _ _ _
  have hWb : Below w2.heap.size w2 W2 := by rw [HW2.out]; exact (Below.refl _ _).alloc (Nat.le_refl _) _
  have HBX : Hid (Owns w3 w2.heap.size #[.int .i64 t.kind, .int .i64 t.num, .string t.text, .slice x t.list.length xc, .slice y t.names.length yc] 30) := Owns.turnsW hT3 (by omega) hbox2
  have HO3 : Hid (Owns w3 w.heap.size #[.int .i64 0, .int .i64 0, .string ⟨#[]⟩, .slice none 0 0, .slice none 0 0] 30) := Owns.turnsW hT3 (by omega) (HO2.out.below hWb HO2.out.lt)
  have HO3' : Hid (Owns w3 (w.heap.size + 1) #[.int .i64 0, .int .i64 0, .string ⟨#[]⟩, .slice none 0 0, .slice none 0 0] 30) := Owns.turnsW hT3 (by omega) (HO2'.out.below hWb HO2'.out.lt)
  have HT3 : Hid (Turns [w.heap.size + 2] w1 w3) := HT2.out.trans ((Turns.of_below hWb (Nat.le_refl _)).trans hT3)
  have HQ3 : Hid (VlQ w3 w1.heap.size 20 t [.int .i64 t.kind, .int .i64 t.num, .string t.text, .slice x t.list.length xc, .slice y t.names.length yc]) := VlQ.keeps ((Keeps.of_below hWb (Nat.le_refl _) _).trans ⟨hT3.size, fun k h1 h2 => hT3.block k h2 (by simp; omega)⟩) _ _ _ HQ.out
  have HR3 : Hid (RdAt w3 (w.heap.size + 2) a n cap (p' + 1)) := hR3
  have hrb3 := hR3.own.lt
  have hvb : w2.heap.size < w3.heap.size := HBX.out.lt
  obtain ⟨V, hV⟩ : ∃ V, w2.heap.size = V := ⟨_, rfl⟩
  rw [hV] at HBX hvb hrb2 hsz2 ⊢
  clear hV hR3 hT3 hbox2 hWb HO2 HO2' HT2 HR2 HQ HW2
  obtain ⟨c0, c1, c2, c3, c4⟩ := five_ofT HBX.out.cell
  have hB3 : Below w.heap.size w w3 := by
    have hT := HT3.out
    exact ⟨hT.os.trans HB1.out.os, hT.tape.trans HB1.out.tape, hT.output.trans HB1.out.output, Nat.le_trans HB1.out.size hT.size, fun b hb => (hT.block b (by have := HB1.out.size; omega) (by simp; omega)).trans (HB1.out.block b hb)⟩
  have HB3 : Hid (Below w.heap.size w w3) := hB3
  clear hB3
  have hne1 : w.heap.size + 1 ≠ w.heap.size := by omega
  have hne2 : w.heap.size ≠ w.heap.size + 1 := by omega
  have hva : V ≠ w.heap.size := by omega
  have hva' : w.heap.size ≠ V := by omega
  have hvc : V ≠ w.heap.size + 1 := by omega
  have hvc' : w.heap.size + 1 ≠ V := by omega
  have e0 : w3.drew.cell? ⟨V, 0, none⟩ = some (.int .i64 t.kind) := c0
  have e1 : w3.drew.cell? ⟨V, 1, none⟩ = some (.int .i64 t.num) := c1
  have e2 : w3.drew.cell? ⟨V, 2, none⟩ = some (.string t.text) := c2
  have e3 : w3.drew.cell? ⟨V, 3, none⟩ = some (.slice x t.list.length xc) := c3
  have e4 : w3.drew.cell? ⟨V, 4, none⟩ = some (.slice y t.names.length yc) := c4
  rcases (show q = 0 ∨ q = 1 by omega) with rfl | rfl
  · have HCP : Hid (∀ W, Below w3.heap.size w3 W → Calls Tryd.prog 34 #[.agg #[.int .i64 t.kind, .int .i64 t.num, .string t.text, .slice x t.list.length xc, .slice y t.names.length yc]] W fun e w' => ∃ (pp : Option Addr) (n1 : Nat) (pp' : Option Addr) (n1' : Nat), e = .returned (.agg #[.int .i64 t.kind, .int .i64 t.num, .string t.text, .slice pp t.list.length n1, .slice pp' t.names.length n1']) ∧ Hid (VlQ w' w3.heap.size 20 t [.int .i64 t.kind, .int .i64 t.num, .string t.text, .slice pp t.list.length n1, .slice pp' t.names.length n1']) ∧ Hid (Below w3.heap.size w3 w')) := fun W hW => by
      refine (copy_all 20 t _ _ W (VlQ.read _ _ _ (VlQ.base (Nat.zero_le _) _ _ _ (VlQ.keeps (Keeps.of_below hW (Nat.le_refl _) _) _ _ _ HQ3.out)))).mono ?_
      rintro e w' ⟨vl', vn', rfl, hI, hb⟩
      obtain ⟨p, n1, p', n1', rfl, rfl⟩ := hI.slices
      exact ⟨p, n1, p', n1', rfl, VlQ.base hW.size _ _ _ (VlJ.now hI), hW.trans (hb.mono hW.size)⟩
    go_wp2_with fail
    go_region_with (go_at_call 34; refine (Hid.out HCP _ (by first | exact Below.refl _ _ | exact (Below.refl _ _).drew)).mono ?_; rintro e w4 ⟨pp, n1, pp', n1', rfl, HQ4, HB4⟩; obtain ⟨⟨g0, g1, g2, g3, g4⟩, gz⟩ := five_zero ((Hid.out HBX).below (Hid.out HB4) (Owns.lt (Hid.out HBX))); obtain ⟨⟨r0, r1, r2, r3, r4⟩, rz⟩ := five_zero ((Hid.out HO3).below (Hid.out HB4) (Owns.lt (Hid.out HO3))); obtain ⟨⟨s0, s1, s2, s3, s4⟩, sz⟩ := five_zero ((Hid.out HO3').below (Hid.out HB4) (Owns.lt (Hid.out HO3'))); have hl4 : V < w4.heap.size := cell_lt g0; have hl4a : w.heap.size < w4.heap.size := cell_lt r0; have hl4b : w.heap.size + 1 < w4.heap.size := cell_lt s0)
    all_goals
      go_wp2_with fail
      refine bodyPost_ret (v := .tuple #[.agg #[.int .i64 t.kind, .int .i64 t.num, .string t.text, .slice x t.list.length xc, .slice y t.names.length yc], .agg #[.int .i64 t.kind, .int .i64 t.num, .string t.text, .slice pp t.list.length n1, .slice pp' t.names.length n1']]) (by simp [results, Tryd.results13, go_sem, r0, r1, r2, r3, r4, s0, s1, s2, s3, s4]) rfl ?_
      have hk : ∀ base, w.heap.size + 2 ≤ base → Keeps base w4 ((w4.setCells w.heap.size 0 [.int .i64 t.kind, .int .i64 t.num, .string t.text, .slice x t.list.length xc, .slice y t.names.length yc]).setCells (w.heap.size + 1) 0 [.int .i64 t.kind, .int .i64 t.num, .string t.text, .slice pp t.list.length n1, .slice pp' t.names.length n1']) := fun base hbs => ⟨by rw [size_setCells, size_setCells]; exact Nat.le_refl _, fun k h1 _ => (heap_setCells_ne _ _ _ _ (by omega)).trans (heap_setCells_ne _ _ _ _ (by omega))⟩
      exact ⟨t, x, xc, y, yc, t, pp, n1, pp', n1', rfl, VlQ.base (Nat.zero_le _) _ _ _ (VlQ.keeps (hk _ (by omega)) _ _ _ (VlQ.keeps (Keeps.of_below HB4.out (Nat.le_refl _) _) _ _ _ HQ3.out)), VlQ.base (Nat.zero_le _) _ _ _ (VlQ.keeps (hk _ (by omega)) _ _ _ HQ4.out), Below.setCells (by omega) [.int .i64 t.kind, .int .i64 t.num, .string t.text, .slice pp t.list.length n1, .slice pp' t.names.length n1'] 0 (Below.setCells (Nat.le_refl _) [.int .i64 t.kind, .int .i64 t.num, .string t.text, .slice x t.list.length xc, .slice y t.names.length yc] 0 (HB3.out.trans (HB4.out.mono HB3.out.size))), HZ.out, HZ.out⟩
  · have HCA : Hid (∀ W, Below w3.heap.size w3 W → Calls Tryd.prog 32 #[.pointer (some ⟨w.heap.size + 2, 0, none⟩)] W fun e w' => ∃ (u : Vl) (x' : Option Addr) (xc' : Nat) (y' : Option Addr) (yc' : Nat), e = .returned (.agg #[.int .i64 u.kind, .int .i64 u.num, .string u.text, .slice x' u.list.length xc', .slice y' u.names.length yc']) ∧ Hid (VlQ w' w3.heap.size 20 u [.int .i64 u.kind, .int .i64 u.num, .string u.text, .slice x' u.list.length xc', .slice y' u.names.length yc']) ∧ Hid (Turns [w.heap.size + 2] w3 w') ∧ Hid (SzLe u 100000)) := fun W hW => by
      refine (l13AnyValue_any (w.heap.size + 2) a n cap (p' + 1) W (by omega) (HR3.out.grew hrb3 HR3.out.lowV (fun q hq => hW.block q hq))).mono ?_
      rintro e w' ⟨u, x', xc', y', yc', q', rfl, hQ, _, _, hT, hZ⟩
      exact ⟨u, x', xc', y', yc', rfl, VlQ.base hW.size _ _ _ hQ, (Turns.of_below hW (Nat.le_refl _)).trans hT, hZ⟩
    have hv2 : V ≠ w.heap.size + 2 := by omega
    go_wp2_with fail
    go_region_with (go_at_call 32; refine (Hid.out HCA _ (by first | exact Below.refl _ _ | exact (Below.refl _ _).drew)).mono ?_; rintro e w4 ⟨u, x', xc', y', yc', rfl, HQ4, HT4, HZ4⟩; obtain ⟨⟨g0, g1, g2, g3, g4⟩, gz⟩ := five_zero (Owns.turnsW (Hid.out HT4) hv2 (Hid.out HBX)); obtain ⟨⟨r0, r1, r2, r3, r4⟩, rz⟩ := five_zero (Owns.turnsW (Hid.out HT4) (by omega) (Hid.out HO3)); obtain ⟨⟨s0, s1, s2, s3, s4⟩, sz⟩ := five_zero (Owns.turnsW (Hid.out HT4) (by omega) (Hid.out HO3')); have hl4 : V < w4.heap.size := cell_lt g0; have hl4a : w.heap.size < w4.heap.size := cell_lt r0; have hl4b : w.heap.size + 1 < w4.heap.size := cell_lt s0)
    all_goals
      go_wp2_with fail
      refine bodyPost_ret (v := .tuple #[.agg #[.int .i64 t.kind, .int .i64 t.num, .string t.text, .slice x t.list.length xc, .slice y t.names.length yc], .agg #[.int .i64 u.kind, .int .i64 u.num, .string u.text, .slice x' u.list.length xc', .slice y' u.names.length yc']]) (by simp [results, Tryd.results13, go_sem, r0, r1, r2, r3, r4, s0, s1, s2, s3, s4]) rfl ?_
      have hk : ∀ base, w.heap.size + 2 ≤ base → Keeps base w4 ((w4.setCells w.heap.size 0 [.int .i64 t.kind, .int .i64 t.num, .string t.text, .slice x t.list.length xc, .slice y t.names.length yc]).setCells (w.heap.size + 1) 0 [.int .i64 u.kind, .int .i64 u.num, .string u.text, .slice x' u.list.length xc', .slice y' u.names.length yc']) := fun base hbs => ⟨by rw [size_setCells, size_setCells]; exact Nat.le_refl _, fun k h1 _ => (heap_setCells_ne _ _ _ _ (by omega)).trans (heap_setCells_ne _ _ _ _ (by omega))⟩
      exact ⟨t, x, xc, y, yc, u, x', xc', y', yc', rfl, VlQ.base (Nat.zero_le _) _ _ _ (VlQ.keeps (hk _ (by omega)) _ _ _ (VlQ.keeps ⟨HT4.out.size, fun k h1 h2 => HT4.out.block k h2 (by simp; omega)⟩ _ _ _ HQ3.out)), VlQ.base (Nat.zero_le _) _ _ _ (VlQ.keeps (hk _ (by omega)) _ _ _ HQ4.out), Below.setCells (by omega) [.int .i64 u.kind, .int .i64 u.num, .string u.text, .slice x' u.list.length xc', .slice y' u.names.length yc'] 0 (Below.setCells (Nat.le_refl _) [.int .i64 t.kind, .int .i64 t.num, .string t.text, .slice x t.list.length xc, .slice y t.names.length yc] 0 (HT4.out.below HB3.out (by simp) HB3.out.size)), HZ.out, HZ4.out⟩

end Go.Proofs.YtegnalfkdponhaaDoor
