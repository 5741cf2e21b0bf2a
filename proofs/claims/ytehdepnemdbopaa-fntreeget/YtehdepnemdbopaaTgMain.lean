
/-
  DERIVED. laws.FnTreeGet: its walk out of the contracts.
-/
import Derived.Test.YtehdepnemdbopaaTgLaw
import Derived.Deep.LoopGhost
import Derived.Deep.RegionHeld3
namespace Go.Proofs.Ytehdepnemdbopaa
open Go.RowKit
set_option linter.unusedVariables false
set_option linter.unusedSimpArgs false

theorem five_ofT {W : World} {b : Nat} {x0 x1 x2 x3 x4 : Value} (h : ∀ o, W.cell? ⟨b, o, none⟩ = #[x0, x1, x2, x3, x4][o]?) :
    W.cell? ⟨b, 0, none⟩ = some x0 ∧ W.cell? ⟨b, 1, none⟩ = some x1 ∧ W.cell? ⟨b, 2, none⟩ = some x2 ∧ W.cell? ⟨b, 3, none⟩ = some x3 ∧ W.cell? ⟨b, 4, none⟩ = some x4 := ⟨h 0, h 1, h 2, h 3, h 4⟩
theorem keeps_belowT {w W W' : World} (h : Keeps 0 w W) (hb : Below W.heap.size W W') : Keeps 0 w W' := h.trans (Keeps.of_below hb (Nat.le_refl _) 0)
theorem owns_keepsT {w W : World} {b : Nat} {c : Array Value} {e : TypeId} (h : Owns w b c e) (hk : Keeps 0 w W) : Owns W b c e := by
  have hl := h.lt
  unfold Owns at h ⊢
  rw [hk.block b (Nat.zero_le _) hl]; exact h
theorem PL.keeps {w W : World} (h : Keeps 0 w W) : ∀ (k : Nat) (l : List Vl) (v : Value), PL w k l v → PL W k l v
  | 0, _, _, hp => hp
  | k + 1, l, v, hp => by
    rcases hp with hp | ⟨b, off, c, h1, h2, h3, h4⟩
    · exact Or.inl hp
    · refine Or.inr ⟨b, off, c, h1, ?_, h3, fun i hi => ?_⟩
      · obtain ⟨cc, e, hp⟩ := h2
        refine ⟨cc, e, ?_⟩
        rw [h.block _ (Nat.zero_le _) ?_]; exact hp
        by_cases hx : b < w.heap.size
        · exact hx
        · simp only at hp; rw [Array.getElem?_eq_none (by omega)] at hp; simp at hp
      · obtain ⟨vl, vn, d1, d2, d3⟩ := h4 i hi
        exact ⟨vl, vn, d1.keeps h (Nat.zero_le _), d2.keeps h, PL.keeps h k _ _ d3⟩

/-- Of a value that is ok names are there just in a tree, as many as values. -/
theorem ok_namesT {t : Vl} (h : okB false 6 t = true) : t.names.length = 0 ∨ (t.kind = 5 ∧ t.names.length = t.list.length) := by
  by_cases h5 : t.kind = 5
  · right
    refine ⟨h5, ?_⟩
    rw [okB_succ] at h
    simp only [Bool.and_eq_true] at h
    have hp := h.1.1.1
    unfold plainB at hp
    simp [h5] at hp
    omega
  · left
    cases hp : partsB t.kind t.num t.text t.list.length t.names.length
    · rw [ok_parts false 5 hp] at h; exact absurd h (by decide)
    · exact parts_no_names hp h5
theorem szleT {t x : Vl} {m : Nat} (h : SzLe t m) (hx : x ∈ t.list) : SzLe x m := fun sz hs => by
  have h1 := h sz hs
  rw [hs t] at h1
  have h2 : ∀ l : List Vl, x ∈ l → sz x ≤ sumL sz l := fun l => by
    induction l with
    | nil => intro h; simp at h
    | cons y r ih =>
      intro h
      simp only [sumL]
      rcases List.mem_cons.1 h with rfl | h
      · omega
      · have := ih h; omega
  have := h2 _ hx
  omega
theorem szle_tree {t : Vl} {s : ByteArray} (h : SzLe t 100000) : SzLe (vlOf (treeG t s)) 100000 := by
  cases ho : treeG t s with
  | none =>
    intro sz hs
    show sz zeroV ≤ _
    rw [hs]
    simp [zeroV, sumL]
  | some x =>
    unfold treeG at ho
    cases hok : okB false 6 t
    · rw [hok] at ho; simp at ho
    · rw [hok] at ho
      simp at ho
      exact szleT h (treeO_ok ho hok).1

set_option maxHeartbeats 8000000 in
theorem law_main (sz : Vl → Nat) (hsz : IsSz sz) (a : Option Addr) (n c : Nat) (w : World) (hn : n ≤ 1048576) (hc : n ≤ c) (h1 : CodeAt w a n) :
    Calls Try.prog 4 #[.slice a n c] w fun e w' => e = .returned (.bool true) ∧ Below w.heap.size w w' := by
  have b1 : decide ((1048576 : Int) < (n : Int)) = false := decide_eq_false (by omega)
  have H1 : Hid (CodeAt w a n) := h1
  clear h1
  go_enter Try.func4, Try.ntmps4
  go_wp2_with fail
  refine (drawTreeGet_any a n c w hn hc H1.out).mono ?_
  rintro e w1 ⟨t, x, xc, y, yc, s, rfl, hQ, hb1, hZ, hss⟩
  obtain ⟨W1, hW1⟩ : ∃ W1, W1 = w1.alloc (.cells #[.int .i64 t.kind, .int .i64 t.num, .string t.text, .slice x t.list.length xc, .slice y t.names.length yc] 29) := ⟨_, rfl⟩
  have hbW : Below w1.heap.size w1 W1 := by rw [hW1]; exact (Below.refl _ _).alloc (Nat.le_refl _) _
  have HQ : Hid (∀ W, Keeps 0 W1 W → VlQ W 0 20 t [.int .i64 t.kind, .int .i64 t.num, .string t.text, .slice x t.list.length xc, .slice y t.names.length yc]) := fun W h => VlQ.keeps ((Keeps.of_below hbW (Nat.le_refl _) 0).trans h) _ _ _ hQ
  have hO1 : Owns W1 w1.heap.size #[.int .i64 t.kind, .int .i64 t.num, .string t.text, .slice x t.list.length xc, .slice y t.names.length yc] 29 := by rw [hW1]; exact Owns.made _ _ _
  have HO : Hid (∀ W, Keeps 0 W1 W → Owns W w1.heap.size #[.int .i64 t.kind, .int .i64 t.num, .string t.text, .slice x t.list.length xc, .slice y t.names.length yc] 29) := fun W h => owns_keepsT hO1 h
  have HB1 : Hid (Below w.heap.size w W1) := hb1.trans (hbW.mono hb1.size)
  have HW1 : Hid (W1 = w1.alloc (.cells #[.int .i64 t.kind, .int .i64 t.num, .string t.text, .slice x t.list.length xc, .slice y t.names.length yc] 29)) := hW1
  have HZ : Hid (SzLe t 100000) := hZ
  clear hQ hb1 hbW hO1 hW1 hZ
  go_wp2_with fail
  rw [← HW1.out]
  clear HW1
  obtain ⟨V, hV⟩ : ∃ V, w1.heap.size = V := ⟨_, rfl⟩
  rw [hV] at HO ⊢
  clear hV
  obtain ⟨X, hX⟩ : ∃ X, vlOf (treeG t s) = X := ⟨_, rfl⟩
  obtain ⟨B, hB⟩ : ∃ B, (treeG t s).isSome = B := ⟨_, rfl⟩
  have hc2 := implTreeGet_any 18 (by omega) t _ _ s W1 (by omega) (VlQ.read _ _ _ (HQ.out _ (Keeps.refl _ _)))
  unfold ImplTG at hc2
  rw [hX, hB] at hc2
  refine hc2.mono ?_
  rintro e w2 ⟨vl2, vn2, rfl, hO2, hb2⟩
  obtain ⟨xa, xac, xa', xac', hv⟩ := hO2.cells
  simp only [List.cons.injEq, true_and, and_true] at hv
  obtain ⟨rfl, rfl⟩ := hv
  have HX : Hid (vlOf (treeG t s) = X) := hX
  have HBt : Hid ((treeG t s).isSome = B) := hB
  obtain ⟨W3, hW3⟩ : ∃ W3, W3 = w2.alloc (.cells #[.int .i64 X.kind, .int .i64 X.num, .string X.text, .slice xa X.list.length xac, .slice xa' X.names.length xac'] 29) := ⟨_, rfl⟩
  have hb3 : Below w2.heap.size w2 W3 := by rw [hW3]; exact (Below.refl _ _).alloc (Nat.le_refl _) _
  have hOx : Owns W3 w2.heap.size #[.int .i64 X.kind, .int .i64 X.num, .string X.text, .slice xa X.list.length xac, .slice xa' X.names.length xac'] 29 := by rw [hW3]; exact Owns.made _ _ _
  have HOx : Hid (∀ W, Keeps 0 W3 W → Owns W w2.heap.size #[.int .i64 X.kind, .int .i64 X.num, .string X.text, .slice xa X.list.length xac, .slice xa' X.names.length xac'] 29) := fun W h => owns_keepsT hOx h
  have HPx : Hid (∀ W, Keeps 0 W3 W → PL W 19 X.list (.slice xa X.list.length xac) ∧ StrRow W 0 X.names (.slice xa' X.names.length xac')) := fun W h => by
    have h1 := VlO.pl _ _ _ _ _ _ _ _ _ hO2
    have h2 := (Keeps.of_below hb3 (Nat.le_refl _) 0).trans h
    exact ⟨PL.keeps h2 _ _ _ h1.1, h1.2.keeps h2⟩
  have HK3 : Hid (Keeps 0 W1 W3) := keeps_belowT (Keeps.of_below hb2 (Nat.le_refl _) 0) hb3
  have HB3 : Hid (Below w.heap.size w W3) := (HB1.out.trans (hb2.mono HB1.out.size)).trans (hb3.mono (Nat.le_trans HB1.out.size hb2.size))
  obtain ⟨c0, c1, c2, c3, c4⟩ := five_ofT (HO.out w2 (Keeps.of_below hb2 (Nat.le_refl _) 0)).cell
  have hvl2 : V < w2.heap.size := cell_lt c0
  have HW3 : Hid (W3 = w2.alloc (.cells #[.int .i64 X.kind, .int .i64 X.num, .string X.text, .slice xa X.list.length xac, .slice xa' X.names.length xac'] 29)) := hW3
  clear hb2 hb3 hO2 hOx hX hB hW3 HB1 hc2
  go_wp2_with fail
  rw [← HW3.out]
  clear HW3 c0 c1 c2 c3 c4
  obtain ⟨bx, hbx⟩ : ∃ bx, w2.heap.size = bx := ⟨_, rfl⟩
  rw [hbx] at HOx ⊢
  clear hbx hvl2
  have hc4 := specTreeGet_any 18 t _ _ s W3 (by omega) (VlQ.read _ _ _ (HQ.out _ HK3.out))
  unfold SpecTG at hc4
  rw [HX.out, HBt.out] at hc4
  refine hc4.mono ?_
  rintro e w4 ⟨vl4, vn4, rfl, hQ4, hb4⟩
  obtain ⟨ya, yac, ya', yac', hv⟩ := (VlQ.read _ _ _ hQ4).cells
  simp only [List.cons.injEq, true_and, and_true] at hv
  obtain ⟨rfl, rfl⟩ := hv
  obtain ⟨W5, hW5⟩ : ∃ W5, W5 = w4.alloc (.cells #[.int .i64 X.kind, .int .i64 X.num, .string X.text, .slice ya X.list.length yac, .slice ya' X.names.length yac'] 29) := ⟨_, rfl⟩
  have hb5 : Below w4.heap.size w4 W5 := by rw [hW5]; exact (Below.refl _ _).alloc (Nat.le_refl _) _
  have hOy : Owns W5 w4.heap.size #[.int .i64 X.kind, .int .i64 X.num, .string X.text, .slice ya X.list.length yac, .slice ya' X.names.length yac'] 29 := by rw [hW5]; exact Owns.made _ _ _
  have HOy : Hid (∀ W, Keeps 0 W5 W → Owns W w4.heap.size #[.int .i64 X.kind, .int .i64 X.num, .string X.text, .slice ya X.list.length yac, .slice ya' X.names.length yac'] 29) := fun W h => owns_keepsT hOy h
  have HPy : Hid (∀ W, Keeps 0 W5 W → PL W 19 X.list (.slice ya X.list.length yac) ∧ StrRow W 0 X.names (.slice ya' X.names.length yac')) := fun W h => by
    have h1 := VlQ.pl _ _ _ _ _ _ _ hQ4
    have h2 := (Keeps.of_below hb5 (Nat.le_refl _) 0).trans h
    exact ⟨PL.keeps h2 _ _ _ h1.1, h1.2.keeps h2⟩
  have HK35 : Hid (Keeps 0 W3 W5) := keeps_belowT (Keeps.of_below hb4 (Nat.le_refl _) 0) hb5
  have HB5 : Hid (Below w.heap.size w W5) := (HB3.out.trans (hb4.mono HB3.out.size)).trans (hb5.mono (Nat.le_trans HB3.out.size hb4.size))
  obtain ⟨x0, x1, x2, x3, x4⟩ := five_ofT (HOx.out w4 (Keeps.of_below hb4 (Nat.le_refl _) 0)).cell
  have hxl4 : bx < w4.heap.size := cell_lt x0
  have HW5 : Hid (W5 = w4.alloc (.cells #[.int .i64 X.kind, .int .i64 X.num, .string X.text, .slice ya X.list.length yac, .slice ya' X.names.length yac'] 29)) := hW5
  have hBB : (B != B) = false := by simp
  have HZX : Hid (sz X ≤ 10000000) := by
    have h := szle_tree (s := s) HZ.out sz hsz
    rw [HX.out] at h
    show _ ≤ _
    omega
  clear hb4 hb5 hQ4 hOy hW5 HB3 hc4
  go_wp2_with fail
  rw [← HW5.out]
  clear HW5 x0 x1 x2 x3 x4
  obtain ⟨by', hby⟩ : ∃ by', w4.heap.size = by' := ⟨_, rfl⟩
  rw [hby] at HOy ⊢
  clear hby hxl4
  refine (implSame_any sz hsz X X 19 19 _ _ _ _ W5 (HPx.out _ HK35.out).1 (HPx.out _ HK35.out).2 (HPy.out _ (Keeps.refl _ _)).1 (HPy.out _ (Keeps.refl _ _)).2 HZX.out).mono ?_
  rintro e w6 ⟨b6, rfl, hb6', hb6⟩
  obtain rfl : b6 = true := hb6'.2 rfl
  have HK6 : Hid (Keeps 0 W5 w6) := Keeps.of_below hb6 (Nat.le_refl _) 0
  have HB6 : Hid (Below w.heap.size w w6) := HB5.out.trans (hb6.mono HB5.out.size)
  obtain ⟨c0, c1, c2, c3, c4⟩ := five_ofT (HO.out w6 ((HK3.out.trans HK35.out).trans HK6.out)).cell
  clear hb6 hb6' HB5
  obtain ⟨ok, hok⟩ : ∃ ok, okB false 6 t = ok := ⟨_, rfl⟩
  go_wp2_with fail
  refine (specValueOk_any 20 t _ _ w6 (VlQ.read _ _ _ (HQ.out _ ((HK3.out.trans HK35.out).trans HK6.out)))).mono ?_
  rintro e w7 ⟨rfl, hb7⟩
  have HK7 : Hid (Keeps 0 W5 w7) := keeps_belowT HK6.out hb7
  have HB7 : Hid (Below w.heap.size w w7) := HB6.out.trans (hb7.mono HB6.out.size)
  rw [hok]
  have HOK : Hid (okB false 6 t = ok) := hok
  clear hb7 hok c0 c1 c2 c3 c4 HB6 HK6
  obtain ⟨x0, x1, x2, x3, x4⟩ := five_ofT (HOx.out w7 (HK35.out.trans HK7.out)).cell
  obtain ⟨y0, y1, y2, y3, y4⟩ := five_ofT (HOy.out w7 HK7.out).cell
  cases ok
  · have hBe : (B == B) = true := by simp
    go_wp2_with fail
    refine (implSame_any sz hsz X X 19 19 _ _ _ _ w7 (HPx.out _ (HK35.out.trans HK7.out)).1 (HPx.out _ (HK35.out.trans HK7.out)).2 (HPy.out _ HK7.out).1 (HPy.out _ HK7.out).2 HZX.out).mono ?_
    rintro e w8 ⟨b8, rfl, hb8', hb8⟩
    obtain rfl : b8 = true := hb8'.2 rfl
    have HB8 : Hid (Below w.heap.size w w8) := HB7.out.trans (hb8.mono HB7.out.size)
    clear hb8 hb8'
    go_wp2_with fail
    go_ret
    exact ⟨rfl, HB8.out⟩
  · have HNM := ok_namesT HOK.out
    have hG : treeG t s = treeO t s := by unfold treeG; rw [HOK.out]; rfl
    have HIV : Hid ((t.names.length = 0 ∧ treeO t s = none) ∨ (t.kind = 5 ∧ t.names.length = t.list.length ∧ treeO t s = findL (t.names.drop 0) (t.list.drop 0) s)) := by
      rcases HNM with h | ⟨h1, h2⟩
      · left
        refine ⟨h, ?_⟩
        have hn0 : t.names = [] := List.eq_nil_of_length_eq_zero h
        unfold treeO
        split
        · rw [hn0]; cases t.list <;> rfl
        · rfl
      · right
        refine ⟨h1, h2, ?_⟩
        unfold treeO
        rw [if_pos h1, List.drop_zero, List.drop_zero]
    have HGO : Hid (treeG t s = treeO t s) := hG
    have hnl : t.names.length ≤ 140737488351232 := by
      obtain ⟨vl, vn, e, _, _, _, _, hnames, _⟩ := HQ.out _ (Keeps.refl _ _)
      obtain ⟨_, _, _, h16, _⟩ := StrRow.len hnames
      omega
    have hnli : (t.names.length : Int) ≤ 140737488351232 := by omega
    clear HNM hG x0 x1 x2 x3 x4 y0 y1 y2 y3 y4
    go_wp2_with fail
    go_loopg [9] t.names.length (fun k v wr => ∃ j : Nat, v = .int .i64 (j : Int) ∧ j + k = t.names.length ∧ Hid ((t.names.length = 0 ∧ treeO t s = none) ∨ (t.kind = 5 ∧ t.names.length = t.list.length ∧ treeO t s = findL (t.names.drop j) (t.list.drop j) s)) ∧ Hid (Below w7.heap.size w7 wr))
    case atStart => exact ⟨0, rfl, by omega, HIV, Below.refl _ _⟩
    case round =>
      rename Nat => k
      clear HIV
      obtain ⟨j, rfl, hjk, HIV, HBr⟩ := hrel
      have HKr : Hid (Keeps 0 W5 wr) := keeps_belowT HK7.out HBr.out
      have HK1 : Hid (Keeps 0 W1 wr) := (HK3.out.trans HK35.out).trans HKr.out
      have HBw : Hid (Below w.heap.size w wr) := HB7.out.trans (HBr.out.mono HB7.out.size)
      obtain ⟨c0, c1, c2, c3, c4⟩ := five_ofT (HO.out wr HK1.out).cell
      have hjl : (j : Int) ≤ 140737488351232 := by omega
      by_cases hlt : j < t.names.length
      · have hlti : (j : Int) < (t.names.length : Int) := by omega
        obtain ⟨vl, vn, e, _, _, _, hrow, hnames, _⟩ := HQ.out wr HK1.out
        simp only [List.cons.injEq, true_and, and_true] at e
        obtain ⟨rfl, rfl⟩ := e
        obtain ⟨a', c', hv', _, hr⟩ := StrRow.len hnames
        obtain ⟨nb, noff, rfl, _, hcs⟩ := hr (List.ne_nil_of_length_pos (by omega))
        simp only [Value.slice.injEq, true_and] at hv'
        obtain ⟨rfl, rfl⟩ := hv'
        obtain ⟨n0, _⟩ := hcs j hlt
        obtain ⟨h5, hln, hfo⟩ : t.kind = 5 ∧ t.names.length = t.list.length ∧ treeO t s = findL (t.names.drop j) (t.list.drop j) s := by
          rcases HIV.out with ⟨h, _⟩ | h
          · omega
          · exact h
        have hlt' : j < t.list.length := by omega
        cases he : (t.names[j].toList == s.toList)
        · have HIV2 : Hid ((t.names.length = 0 ∧ treeO t s = none) ∨ (t.kind = 5 ∧ t.names.length = t.list.length ∧ treeO t s = findL (t.names.drop (j + 1)) (t.list.drop (j + 1)) s)) := Or.inr ⟨h5, hln, by rw [hfo]; exact findL_miss hlt hlt' he⟩
          clear hrow hnames hr hcs h5 hln hfo HIV
          go_wp2_with fail
          go_roundg (k - 1)
          case rel => exact ⟨j + 1, by go_num, by omega, HIV2, HBr⟩
          case measure => omega
        · have hhit : treeO t s = some t.list[j] := by rw [hfo]; exact findL_hit hlt hlt' he
          have hXj : X = t.list[j] := by have h := HX.out; rw [HGO.out, hhit] at h; exact h.symm
          have hBj : B = true := by have h := HBt.out; rw [HGO.out, hhit] at h; exact h.symm
          obtain ⟨la, lc, hlv, _, hlr⟩ := Row.len hrow
          obtain ⟨lb, loff, rfl, _, hlcs⟩ := hlr (List.ne_nil_of_length_pos (by omega))
          simp only [Value.slice.injEq, true_and] at hlv
          obtain ⟨rfl, rfl⟩ := hlv
          obtain ⟨cs, _, hlc, hlq⟩ := hlcs j hlt'
          obtain ⟨p, n1, p', n1', rfl⟩ := (VlQ.read _ _ _ hlq).cells
          obtain ⟨e0, e1, e2, e3, e4⟩ := hlc.five
          have hlti' : (j : Int) < (t.list.length : Int) := by omega
          have HPl : Hid (PL wr 19 t.list[j].list (.slice p t.list[j].list.length n1) ∧ StrRow wr 0 t.list[j].names (.slice p' t.list[j].names.length n1')) := VlQ.pl _ _ _ _ _ _ _ hlq
          clear hrow hnames hr hcs h5 hln hfo HIV hlr hlcs hlc hlq hhit
          subst hBj
          subst hXj
          have HPx2 : Hid (PL wr 19 t.list[j].list (.slice xa t.list[j].list.length xac) ∧ StrRow wr 0 t.list[j].names (.slice xa' t.list[j].names.length xac')) := HPx.out wr (HK35.out.trans HKr.out)
          obtain ⟨x0, x1, x2, x3, x4⟩ := five_ofT (HOx.out wr (HK35.out.trans HKr.out)).cell
          have HCALL : Hid (Calls Try.prog 14 #[.agg #[.int .i64 t.list[j].kind, .int .i64 t.list[j].num, .string t.list[j].text, .slice xa t.list[j].list.length xac, .slice xa' t.list[j].names.length xac'], .agg #[.int .i64 t.list[j].kind, .int .i64 t.list[j].num, .string t.list[j].text, .slice p t.list[j].list.length n1, .slice p' t.list[j].names.length n1']] wr.drew (fun e w8 => e = .returned (.bool true) ∧ Below wr.heap.size wr w8)) := by
            have h1 : Keeps 0 wr wr.drew := (Keeps.refl _ _).drew
            refine (implSame_any sz hsz t.list[j] t.list[j] 19 19 _ _ _ _ wr.drew (PL.keeps h1 _ _ _ HPx2.out.1) (HPx2.out.2.keeps h1) (PL.keeps h1 _ _ _ HPl.out.1) (HPl.out.2.keeps h1) HZX.out).mono ?_
            rintro e w8 ⟨b8, rfl, hb8', hb8⟩
            obtain rfl : b8 = true := hb8'.2 rfl
            exact ⟨rfl, ((Below.refl _ wr).drew).trans hb8⟩
          go_wp2_with fail
          go_region_held3 (fun w' => (w'.cell? ⟨bx, 0, none⟩ = some (.int .i64 t.list[j].kind) ∧ w'.cell? ⟨bx, 1, none⟩ = some (.int .i64 t.list[j].num) ∧ w'.cell? ⟨bx, 2, none⟩ = some (.string t.list[j].text) ∧ w'.cell? ⟨bx, 3, none⟩ = some (.slice xa t.list[j].list.length xac) ∧ w'.cell? ⟨bx, 4, none⟩ = some (.slice xa' t.list[j].names.length xac')) ∧ w'.cell? ⟨V, 3, none⟩ = some (.slice (some ⟨lb, loff, none⟩) t.list.length xc) ∧ w'.cell? ⟨lb, loff + j * 5, none⟩ = some (.int .i64 t.list[j].kind) ∧ w'.cell? ⟨lb, loff + j * 5 + 1, none⟩ = some (.int .i64 t.list[j].num) ∧ w'.cell? ⟨lb, loff + j * 5 + 2, none⟩ = some (.string t.list[j].text) ∧ w'.cell? ⟨lb, loff + j * 5 + 3, none⟩ = some (.slice p t.list[j].list.length n1) ∧ w'.cell? ⟨lb, loff + j * 5 + 4, none⟩ = some (.slice p' t.list[j].names.length n1')) (first | go_keep | exact ⟨⟨cell_on hb8 x0, cell_on hb8 x1, cell_on hb8 x2, cell_on hb8 x3, cell_on hb8 x4⟩, cell_on hb8 c3, cell_on hb8 e0, cell_on hb8 e1, cell_on hb8 e2, cell_on hb8 e3, cell_on hb8 e4⟩) (first | (go_at_call 14; refine (Hid.out HCALL).mono ?_; rintro e w8 ⟨rfl, hb8⟩))
          all_goals
            have HB8 : Hid (Below w.heap.size w w8) := HBw.out.trans (hb8.mono HBw.out.size)
            clear hb8
            go_wp2_with fail
            go_ret
            exact ⟨rfl, HB8.out⟩
      · have hnone : treeO t s = none := by
          rcases HIV.out with ⟨_, h⟩ | ⟨_, h2, h⟩
          · exact h
          · rw [h, List.drop_eq_nil_of_le (by omega)]
            cases t.list.drop j <;> rfl
        have hBj : B = false := by have h := HBt.out; rw [HGO.out, hnone] at h; exact h.symm
        have hlti : decide ((j : Int) < (t.names.length : Int)) = false := decide_eq_false (by omega)
        subst hBj
        clear HIV hnone
        go_wp2_with fail
        go_ret
        exact ⟨rfl, HBw.out⟩

end Go.Proofs.Ytehdepnemdbopaa
