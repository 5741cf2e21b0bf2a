
/-
  DERIVED. laws.FnValueOk: its walk out of the contracts.
-/
import Derived.Test.YtopkloocjkndhaaVokLaw
namespace Go.Proofs.Ytopkloocjkndhaa
open Go.RowKit
set_option linter.unusedVariables false
set_option linter.unusedSimpArgs false

theorem five_ofV {W : World} {b : Nat} {x0 x1 x2 x3 x4 : Value} (h : ∀ o, W.cell? ⟨b, o, none⟩ = #[x0, x1, x2, x3, x4][o]?) :
    W.cell? ⟨b, 0, none⟩ = some x0 ∧ W.cell? ⟨b, 1, none⟩ = some x1 ∧ W.cell? ⟨b, 2, none⟩ = some x2 ∧ W.cell? ⟨b, 3, none⟩ = some x3 ∧ W.cell? ⟨b, 4, none⟩ = some x4 := ⟨h 0, h 1, h 2, h 3, h 4⟩
theorem keeps_belowV {w W W' : World} (h : Keeps 0 w W) (hb : Below W.heap.size W W') : Keeps 0 w W' := h.trans (Keeps.of_below hb (Nat.le_refl _) 0)
theorem owns_keeps {w W : World} {b : Nat} {c : Array Value} {e : TypeId} (h : Owns w b c e) (hk : Keeps 0 w W) : Owns W b c e := by
  have hl := h.lt
  unfold Owns at h ⊢
  rw [hk.block b (Nat.zero_le _) hl]; exact h

/-- impl.ValueDeep, of a value that was drawn. -/
theorem deepQ (dep sz : Vl → Nat) (hd : IsDep dep) (hsz : IsSz sz) (k : Nat) (t : Vl) (x : Option Addr) (xc : Nat) (y : Option Addr) (yc : Nat) (w : World) (hk : k ≤ 100) (h : VlQ w 0 k t [.int .i64 t.kind, .int .i64 t.num, .string t.text, .slice x t.list.length xc, .slice y t.names.length yc]) :
    Calls Try.prog 6 #[.agg #[.int .i64 t.kind, .int .i64 t.num, .string t.text, .slice x t.list.length xc, .slice y t.names.length yc]] w fun e w' => e = .returned (.int .i64 (dep t : Int)) ∧ Below w.heap.size w w' :=
  implDeep_any dep sz hd hsz t _ _ _ _ _ k w (VlQ.pin _ _ _ _ _ _ _ h) (by have := VlQ.depV hd _ _ _ h; omega) ⟨_, _, _, _, rfl, rfl⟩ rfl rfl rfl

/-- impl.ValueDeep, impl.ValueOk, of a list of a value alone. -/
theorem deepX (dep sz : Vl → Nat) (hd : IsDep dep) (hsz : IsSz sz) (t : Vl) (D nb : Nat) (w : World) (hD : dep t = D) (h : VlQ w 0 21 (listOf t) [.int .i64 4, .int .i64 0, .string ⟨#[]⟩, .slice (some ⟨nb, 0, none⟩) 1 1, .slice none 0 0]) :
    Calls Try.prog 6 #[.agg #[.int .i64 4, .int .i64 0, .string ⟨#[]⟩, .slice (some ⟨nb, 0, none⟩) 1 1, .slice none 0 0]] w fun e w' => e = .returned (.int .i64 ((D : Int) + 1)) ∧ Below w.heap.size w w' := by
  refine (deepQ dep sz hd hsz 21 (listOf t) (some ⟨nb, 0, none⟩) 1 none 0 w (by omega) h).mono ?_
  rintro e w' ⟨rfl, hb⟩
  refine ⟨?_, hb⟩
  rw [dep_listV hd, hD]
  rfl
theorem okX (t : Vl) (nb : Nat) (w : World) (b : Bool) (hb : okB false 5 t = b) (h : VlQ w 0 21 (listOf t) [.int .i64 4, .int .i64 0, .string ⟨#[]⟩, .slice (some ⟨nb, 0, none⟩) 1 1, .slice none 0 0]) :
    Calls Try.prog 5 #[.agg #[.int .i64 4, .int .i64 0, .string ⟨#[]⟩, .slice (some ⟨nb, 0, none⟩) 1 1, .slice none 0 0]] w fun e w' => e = .returned (.bool b) ∧ Below w.heap.size w w' := by
  refine (implValueOk_any 21 (listOf t) (.slice (some ⟨nb, 0, none⟩) 1 1) (.slice none 0 0) w (VlQ.read _ _ _ h)).mono ?_
  rintro e w' ⟨rfl, hb'⟩
  refine ⟨?_, hb'⟩
  rw [ok_listV, hb]

set_option maxHeartbeats 8000000 in
theorem law_main (dep sz : Vl → Nat) (hd : IsDep dep) (hsz : IsSz sz) (a : Option Addr) (n c : Nat) (w : World) (hn : n ≤ 1048576) (hc : n ≤ c) (h1 : CodeAt w a n) :
    Calls Try.prog 3 #[.slice a n c] w fun e w' => e = .returned (.bool true) ∧ Below w.heap.size w w' := by
  have b1 : decide ((1048576 : Int) < (n : Int)) = false := decide_eq_false (by omega)
  have H1 : Hid (CodeAt w a n) := h1
  clear h1
  go_enter Try.func3, Try.ntmps3
  go_wp2_with fail
  refine (drawValueOk_any a n c w hn hc H1.out).mono ?_
  rintro e w1 ⟨t, x, xc, y, yc, rfl, hQ, hb1, _⟩
  obtain ⟨W1, hW1⟩ : ∃ W1, W1 = w1.alloc (.cells #[.int .i64 t.kind, .int .i64 t.num, .string t.text, .slice x t.list.length xc, .slice y t.names.length yc] 26) := ⟨_, rfl⟩
  have hbW : Below w1.heap.size w1 W1 := by rw [hW1]; exact (Below.refl _ _).alloc (Nat.le_refl _) _
  have HQ : Hid (∀ W, Keeps 0 W1 W → VlQ W 0 20 t [.int .i64 t.kind, .int .i64 t.num, .string t.text, .slice x t.list.length xc, .slice y t.names.length yc]) := fun W h => VlQ.keeps ((Keeps.of_below hbW (Nat.le_refl _) 0).trans h) _ _ _ hQ
  have hO1 : Owns W1 w1.heap.size #[.int .i64 t.kind, .int .i64 t.num, .string t.text, .slice x t.list.length xc, .slice y t.names.length yc] 26 := by rw [hW1]; exact Owns.made _ _ _
  have HO : Hid (∀ W, Keeps 0 W1 W → Owns W w1.heap.size #[.int .i64 t.kind, .int .i64 t.num, .string t.text, .slice x t.list.length xc, .slice y t.names.length yc] 26) := fun W h => owns_keeps hO1 h
  have HB1 : Hid (Below w.heap.size w W1) := hb1.trans (hbW.mono hb1.size)
  have HD20 : Hid (dep t ≤ 20) := VlQ.depV hd _ _ _ hQ
  have HW1 : Hid (W1 = w1.alloc (.cells #[.int .i64 t.kind, .int .i64 t.num, .string t.text, .slice x t.list.length xc, .slice y t.names.length yc] 26)) := hW1
  clear hQ hb1 hbW hO1 hW1
  go_wp2_with fail
  rw [← HW1.out]
  clear HW1
  obtain ⟨V, hV⟩ : ∃ V, w1.heap.size = V := ⟨_, rfl⟩
  rw [hV] at HO ⊢
  clear hV
  obtain ⟨ok, hok⟩ : ∃ ok, okB false 6 t = ok := ⟨_, rfl⟩
  obtain ⟨D, hD⟩ : ∃ D, dep t = D := ⟨_, rfl⟩
  refine (implValueOk_any 20 t _ _ W1 (VlQ.read _ _ _ (HQ.out _ (Keeps.refl _ _)))).mono ?_
  rintro e w2 ⟨rfl, hb2⟩
  have HK2 : Hid (Keeps 0 W1 w2) := Keeps.of_below hb2 (Nat.le_refl _) 0
  have HB2 : Hid (Below w.heap.size w w2) := HB1.out.trans (hb2.mono HB1.out.size)
  obtain ⟨c0, c1, c2, c3, c4⟩ := five_ofV (HO.out w2 HK2.out).cell
  clear hb2 HB1
  rw [hok]
  have HOK : Hid (okB false 6 t = ok) := hok
  have HD : Hid (dep t = D) := hD
  have hD20 : (D : Int) ≤ 20 := by have := HD20.out; omega
  clear hok hD HD20
  go_wp2_with fail
  refine (deepQ dep sz hd hsz 20 t x xc y yc w2 (by omega) (HQ.out _ HK2.out)).mono ?_
  rintro e w3 ⟨rfl, hb3⟩
  have HK3 : Hid (Keeps 0 W1 w3) := keeps_belowV HK2.out hb3
  have HB3 : Hid (Below w.heap.size w w3) := HB2.out.trans (hb3.mono HB2.out.size)
  rw [HD.out]
  clear hb3 HB2 HK2 c0 c1 c2 c3 c4
  obtain ⟨c0, c1, c2, c3, c4⟩ := five_ofV (HO.out w3 HK3.out).cell
  go_wp2_with fail
  refine (specValueOk_any 20 t _ _ w3 (VlQ.read _ _ _ (HQ.out _ HK3.out))).mono ?_
  rintro e w4 ⟨rfl, hb4⟩
  have HK4 : Hid (Keeps 0 W1 w4) := keeps_belowV HK3.out hb4
  have HB4 : Hid (Below w.heap.size w w4) := HB3.out.trans (hb4.mono HB3.out.size)
  rw [HOK.out]
  clear hb4 HB3 HK3 c0 c1 c2 c3 c4
  obtain ⟨c0, c1, c2, c3, c4⟩ := five_ofV (HO.out w4 HK4.out).cell
  have hoo : (ok != ok) = false := by simp
  go_wp2_with fail
  refine (specD_all dep hd 20 t _ _ w4 (VlQ.read _ _ _ (HQ.out _ HK4.out)) (by have := HD.out; omega)).mono ?_
  rintro e w5 ⟨rfl, hb5⟩
  have HK5 : Hid (Keeps 0 W1 w5) := keeps_belowV HK4.out hb5
  have HB5 : Hid (Below w.heap.size w w5) := HB4.out.trans (hb5.mono HB4.out.size)
  rw [HD.out]
  clear hb5 HB4 HK4 c0 c1 c2 c3 c4
  obtain ⟨c0, c1, c2, c3, c4⟩ := five_ofV (HO.out w5 HK5.out).cell
  have hvl5 : V < w5.heap.size := cell_lt c0
  obtain ⟨W6, hW6⟩ : ∃ W6, W6 = (w5.alloc (.cells #[.int .i64 t.kind, .int .i64 t.num, .string t.text, .slice x t.list.length xc, .slice y t.names.length yc] 26)).alloc (.cells #[.int .i64 4, .int .i64 0, .string ⟨#[]⟩, .slice (some ⟨w5.heap.size, 0, none⟩) 1 1, .slice none 0 0] 26) := ⟨_, rfl⟩
  have hb6 : Below w5.heap.size w5 W6 := by rw [hW6]; exact ((Below.refl _ _).alloc (Nat.le_refl _) _).alloc (by simp) _
  have hs5 : (w5.alloc (.cells #[.int .i64 t.kind, .int .i64 t.num, .string t.text, .slice x t.list.length xc, .slice y t.names.length yc] 26)).heap.size = w5.heap.size + 1 := by simp
  have hOn : Owns W6 w5.heap.size #[.int .i64 t.kind, .int .i64 t.num, .string t.text, .slice x t.list.length xc, .slice y t.names.length yc] 26 := by
    rw [hW6]; exact (Owns.made _ _ _).below ((Below.refl _ _).alloc (Nat.le_refl _) _) (by omega)
  have hOx : Owns W6 (w5.heap.size + 1) #[.int .i64 4, .int .i64 0, .string ⟨#[]⟩, .slice (some ⟨w5.heap.size, 0, none⟩) 1 1, .slice none 0 0] 26 := by
    have h := Owns.made (w5.alloc (.cells #[.int .i64 t.kind, .int .i64 t.num, .string t.text, .slice x t.list.length xc, .slice y t.names.length yc] 26)) #[.int .i64 4, .int .i64 0, .string ⟨#[]⟩, .slice (some ⟨w5.heap.size, 0, none⟩) 1 1, .slice none 0 0] 26
    rw [hs5] at h
    rw [hW6]; exact h
  have HK6 : Hid (Keeps 0 W1 W6) := keeps_belowV HK5.out hb6
  have HB6 : Hid (Below w.heap.size w W6) := HB5.out.trans (hb6.mono HB5.out.size)
  have HX : Hid (∀ W, Keeps 0 W6 W → VlQ W 0 21 (listOf t) [.int .i64 4, .int .i64 0, .string ⟨#[]⟩, .slice (some ⟨w5.heap.size, 0, none⟩) 1 1, .slice none 0 0]) := fun W h => VlQ.keeps h _ _ _ (VlQ.wrap (HQ.out _ HK6.out) hOn (Nat.zero_le _))
  have HOx : Hid (∀ W, Keeps 0 W6 W → Owns W (w5.heap.size + 1) #[.int .i64 4, .int .i64 0, .string ⟨#[]⟩, .slice (some ⟨w5.heap.size, 0, none⟩) 1 1, .slice none 0 0] 26) := fun W h => owns_keeps hOx h
  have HW6 : Hid (W6 = (w5.alloc (.cells #[.int .i64 t.kind, .int .i64 t.num, .string t.text, .slice x t.list.length xc, .slice y t.names.length yc] 26)).alloc (.cells #[.int .i64 4, .int .i64 0, .string ⟨#[]⟩, .slice (some ⟨w5.heap.size, 0, none⟩) 1 1, .slice none 0 0] 26)) := hW6
  clear hb6 hs5 hOn hOx hW6 HK5 HB5
  go_wp2_with fail
  rw [← HW6.out]
  clear HW6 c0 c1 c2 c3 c4 hoo
  obtain ⟨nb, hnb⟩ : ∃ nb, w5.heap.size = nb := ⟨_, rfl⟩
  rw [hnb] at HX HOx ⊢
  clear hnb hvl5
  have hl80 : t.list.length ≤ 140737488351232 := by
    obtain ⟨vl, vn, e, _, _, _, hrow, _, _⟩ := HQ.out _ HK6.out
    obtain ⟨_, _, _, h80, _⟩ := Row.len hrow
    omega
  have hl80i : (t.list.length : Int) ≤ 140737488351232 := by omega
  go_loopg [7] t.list.length (fun k v wr => ∃ j : Nat, v = .int .i64 (j : Int) ∧ j + k = t.list.length ∧ Hid (Below W6.heap.size W6 wr))
  case atStart => exact ⟨0, rfl, by omega, Below.refl _ _⟩
  case round =>
    rename Nat => k
    obtain ⟨j, rfl, hjk, HB⟩ := hrel
    have HKr : Hid (Keeps 0 W6 wr) := Keeps.of_below HB.out (Nat.le_refl _) 0
    have hv3 : wr.cell? ⟨V, 3, none⟩ = some (.slice x t.list.length xc) := (HO.out wr (HK6.out.trans HKr.out)).cell 3
    have hjl : (j : Int) ≤ 140737488351232 := by omega
    by_cases hgo : j < t.list.length ∧ ok = true
    · obtain ⟨hlt, rfl⟩ := hgo
      have hlti : (j : Int) < (t.list.length : Int) := by omega
      obtain ⟨vl, vn, e, _, _, _, hrow, _, _⟩ := HQ.out _ HK6.out
      simp only [List.cons.injEq, true_and, and_true] at e
      obtain ⟨rfl, rfl⟩ := e
      obtain ⟨a', c', hv', _, hr⟩ := Row.len hrow
      obtain ⟨b, off, rfl, _, hcs⟩ := hr (List.ne_nil_of_length_pos (by omega))
      simp only [Value.slice.injEq, true_and] at hv'
      obtain ⟨rfl, rfl⟩ := hv'
      obtain ⟨cs, _, hc, hq⟩ := hcs j hlt
      obtain ⟨p, n1, p', n1', rfl⟩ := (VlQ.read _ _ _ hq).cells
      have HCJ : Hid (∀ W, Keeps 0 W6 W → CellsAt W b (off + j * 5) [.int .i64 t.list[j].kind, .int .i64 t.list[j].num, .string t.list[j].text, .slice p t.list[j].list.length n1, .slice p' t.list[j].names.length n1']) := fun W h => hc.keeps h (Nat.zero_le _)
      have HQJ : Hid (∀ W, Keeps 0 W6 W → VlQ W 0 19 t.list[j] [.int .i64 t.list[j].kind, .int .i64 t.list[j].num, .string t.list[j].text, .slice p t.list[j].list.length n1, .slice p' t.list[j].names.length n1']) := fun W h => VlQ.keeps h _ _ _ hq
      have HOKJ : Hid (okB false 6 t.list[j] = true) := ok_childV (dep := dep) HOK.out (List.getElem_mem hlt)
      obtain ⟨dj, hdj⟩ : ∃ dj, dep t.list[j] = dj := ⟨_, rfl⟩
      have hdlt : dj < D := by have h1 := dep_lt hd (List.getElem_mem hlt); have h2 := HD.out; omega
      have HDJ : Hid (dep t.list[j] = dj) := hdj
      have hdi : ¬ (D : Int) ≤ (dj : Int) := by omega
      have hdi2 : decide ((D : Int) ≤ (dj : Int)) = false := decide_eq_false hdi
      obtain ⟨x0, x1, x2, x3, x4⟩ := (HCJ.out _ HKr.out).five
      clear hrow hr hcs hc hq hdj
      go_wp2_with fail
      refine (implValueOk_any 19 t.list[j] _ _ wr (VlQ.read _ _ _ (HQJ.out _ HKr.out))).mono ?_
      rintro e w7 ⟨rfl, hb7⟩
      have HK7 : Hid (Keeps 0 W6 w7) := keeps_belowV HKr.out hb7
      have HB7 : Hid (Below W6.heap.size W6 w7) := HB.out.trans (hb7.mono HB.out.size)
      rw [HOKJ.out]
      clear hb7 x0 x1 x2 x3 x4 hv3
      obtain ⟨x0, x1, x2, x3, x4⟩ := (HCJ.out _ HK7.out).five
      have hv3 : w7.cell? ⟨V, 3, none⟩ = some (.slice (some ⟨b, off, none⟩) t.list.length xc) := (HO.out w7 (HK6.out.trans HK7.out)).cell 3
      go_wp2_with fail
      refine (deepQ dep sz hd hsz 19 t.list[j] p n1 p' n1' w7 (by omega) (HQJ.out _ HK7.out)).mono ?_
      rintro e w8 ⟨rfl, hb8⟩
      have HB8 : Hid (Below W6.heap.size W6 w8) := HB7.out.trans (hb8.mono HB7.out.size)
      rw [HDJ.out]
      clear hb8 x0 x1 x2 x3 x4 hv3
      go_wp2_with fail
      go_roundg (k - 1)
      case rel => exact ⟨j + 1, by go_num, by omega, HB8⟩
      case measure => omega
    · have HEND : Hid (Below w.heap.size w wr) := HB6.out.trans (HB.out.mono HB6.out.size)
      obtain ⟨x0, x1, x2, x3, x4⟩ := five_ofV (HOx.out wr HKr.out).cell
      cases ok
      · have HO5 : Hid (okB false 5 t = false) := by
          show _ = _
          cases h : okB false 5 t
          · rfl
          · have h2 := okB_monoV 5 t h
            have h3 := HOK.out
            rw [h2] at h3
            exact h3
        clear hgo
        by_cases hlt : (j : Int) < (t.list.length : Int)
        · have hltd : decide ((j : Int) < (t.list.length : Int)) = true := decide_eq_true hlt
          go_wp2_with fail
          refine (deepX dep sz hd hsz t D nb wr HD.out (HX.out _ HKr.out)).mono ?_
          rintro e w7 ⟨rfl, hb7⟩
          have HK7 : Hid (Keeps 0 W6 w7) := keeps_belowV HKr.out hb7
          have HB7 : Hid (Below w.heap.size w w7) := HEND.out.trans (hb7.mono HEND.out.size)
          clear hb7 x0 x1 x2 x3 x4 hv3
          obtain ⟨x0, x1, x2, x3, x4⟩ := five_ofV (HOx.out w7 HK7.out).cell
          go_wp2_with fail
          refine (okX t nb w7 false HO5.out (HX.out _ HK7.out)).mono ?_
          rintro e w8 ⟨rfl, hb8⟩
          have HB8 : Hid (Below w.heap.size w w8) := HB7.out.trans (hb8.mono HB7.out.size)
          clear hb8
          go_wp2_with fail
          go_ret
          exact ⟨rfl, HB8.out⟩
        · have hltd : decide ((j : Int) < (t.list.length : Int)) = false := decide_eq_false hlt
          go_wp2_with fail
          refine (deepX dep sz hd hsz t D nb wr HD.out (HX.out _ HKr.out)).mono ?_
          rintro e w7 ⟨rfl, hb7⟩
          have HK7 : Hid (Keeps 0 W6 w7) := keeps_belowV HKr.out hb7
          have HB7 : Hid (Below w.heap.size w w7) := HEND.out.trans (hb7.mono HEND.out.size)
          clear hb7 x0 x1 x2 x3 x4 hv3
          obtain ⟨x0, x1, x2, x3, x4⟩ := five_ofV (HOx.out w7 HK7.out).cell
          go_wp2_with fail
          refine (okX t nb w7 false HO5.out (HX.out _ HK7.out)).mono ?_
          rintro e w8 ⟨rfl, hb8⟩
          have HB8 : Hid (Below w.heap.size w w8) := HB7.out.trans (hb8.mono HB7.out.size)
          clear hb8
          go_wp2_with fail
          go_ret
          exact ⟨rfl, HB8.out⟩
      · have hlt : ¬ (j : Int) < (t.list.length : Int) := fun h => hgo ⟨by omega, rfl⟩
        have hltd : decide ((j : Int) < (t.list.length : Int)) = false := decide_eq_false hlt
        have hD6 : D ≤ 6 := by have h1 := ok_depV hd _ _ HOK.out; have h2 := HD.out; omega
        have hD6i : decide ((D : Int) ≤ 6) = true := decide_eq_true (by omega)
        clear hgo
        by_cases h5 : D ≤ 5
        · have h5i : decide ((D : Int) < 6) = true := decide_eq_true (by omega)
          have HO5 : Hid (okB false 5 t = true) := ok_lessV hd 5 6 t HOK.out (by have := HD.out; omega)
          go_wp2_with fail
          refine (deepX dep sz hd hsz t D nb wr HD.out (HX.out _ HKr.out)).mono ?_
          rintro e w7 ⟨rfl, hb7⟩
          have HK7 : Hid (Keeps 0 W6 w7) := keeps_belowV HKr.out hb7
          have HB7 : Hid (Below w.heap.size w w7) := HEND.out.trans (hb7.mono HEND.out.size)
          clear hb7 x0 x1 x2 x3 x4 hv3
          obtain ⟨x0, x1, x2, x3, x4⟩ := five_ofV (HOx.out w7 HK7.out).cell
          go_wp2_with fail
          refine (okX t nb w7 true HO5.out (HX.out _ HK7.out)).mono ?_
          rintro e w8 ⟨rfl, hb8⟩
          have HB8 : Hid (Below w.heap.size w w8) := HB7.out.trans (hb8.mono HB7.out.size)
          clear hb8
          go_wp2_with fail
          go_ret
          exact ⟨rfl, HB8.out⟩
        · have h5i : decide ((D : Int) < 6) = false := decide_eq_false (by omega)
          have HO5 : Hid (okB false 5 t = false) := by
            show _ = _
            cases h : okB false 5 t
            · rfl
            · have h2 := ok_depV hd _ _ h
              have h3 := HD.out
              omega
          go_wp2_with fail
          refine (deepX dep sz hd hsz t D nb wr HD.out (HX.out _ HKr.out)).mono ?_
          rintro e w7 ⟨rfl, hb7⟩
          have HK7 : Hid (Keeps 0 W6 w7) := keeps_belowV HKr.out hb7
          have HB7 : Hid (Below w.heap.size w w7) := HEND.out.trans (hb7.mono HEND.out.size)
          clear hb7 x0 x1 x2 x3 x4 hv3
          obtain ⟨x0, x1, x2, x3, x4⟩ := five_ofV (HOx.out w7 HK7.out).cell
          go_wp2_with fail
          refine (okX t nb w7 false HO5.out (HX.out _ HK7.out)).mono ?_
          rintro e w8 ⟨rfl, hb8⟩
          have HB8 : Hid (Below w.heap.size w w8) := HB7.out.trans (hb8.mono HB7.out.size)
          clear hb8
          go_wp2_with fail
          go_ret
          exact ⟨rfl, HB8.out⟩

end Go.Proofs.Ytopkloocjkndhaa
