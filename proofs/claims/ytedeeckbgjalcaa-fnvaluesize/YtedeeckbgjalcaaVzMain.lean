
/-
  DERIVED. laws.FnValueSize: its walk out of the contracts.
-/
import Derived.Test.YtedeeckbgjalcaaVokMain
import Derived.Test.YtedeeckbgjalcaaVzW
namespace Go.Proofs.Ytedeeckbgjalcaa
open Go.RowKit
set_option linter.unusedVariables false
set_option linter.unusedSimpArgs false

set_option maxHeartbeats 2000000 in
theorem drawValueSize_any (a : Option Addr) (len cap : Nat) (w : World) (hl : len ≤ 1048576) (hcap : len ≤ cap) (hc : CodeAt w a len) :
    Calls Try.prog 14 #[.slice a len cap] w fun e w' => ∃ (t : Vl) (x : Option Addr) (xc : Nat) (y : Option Addr) (yc : Nat), e = .returned (.agg #[.int .i64 t.kind, .int .i64 t.num, .string t.text, .slice x t.list.length xc, .slice y t.names.length yc]) ∧
      VlQ w' 0 20 t [.int .i64 t.kind, .int .i64 t.num, .string t.text, .slice x t.list.length xc, .slice y t.names.length yc] ∧ Below w.heap.size w w' ∧ SzLe t 100000 := by
  have HC : Hid (CodeAt w a len) := hc
  clear hc
  go_enter Try.func14, Try.ntmps14
  go_wp2_with fail
  refine (l1Open_any a len cap _ hl hcap (HC.out.belowV ((Below.refl _ _).alloc (Nat.le_refl _) _))).mono ?_
  rintro e w1 ⟨n, rfl, hR, hb⟩
  have hs1 : (w.alloc (.cells #[.int .i64 0, .int .i64 0, .string ⟨#[]⟩, .slice none 0 0, .slice none 0 0] 26)).heap.size = w.heap.size + 1 := by simp
  rw [hs1] at hR hb ⊢
  have hB1 : Below w.heap.size w w1 := ((Below.refl _ _).alloc (Nat.le_refl _) _).trans (hb.mono (by omega))
  have hO1 : Owns w1 w.heap.size #[.int .i64 0, .int .i64 0, .string ⟨#[]⟩, .slice none 0 0, .slice none 0 0] 26 := (Owns.made w _ _).below hb (by omega)
  have HR : Hid (RdAt w1 (w.heap.size + 1) a n cap 0) := hR
  have HB1 : Hid (Below w.heap.size w w1) := hB1
  have HO1 : Hid (Owns w1 w.heap.size #[.int .i64 0, .int .i64 0, .string ⟨#[]⟩, .slice none 0 0, .slice none 0 0] 26) := hO1
  clear hR hb hs1 hB1 hO1
  go_wp2_with fail
  refine (l13AnyValue_any (w.heap.size + 1) a n cap 0 w1 (by omega) HR.out).mono ?_
  rintro e w2 ⟨t, x, xc, y, yc, p', rfl, hQ, hR2, _, hT2, hZ⟩
  obtain ⟨⟨r0, r1, r2, r3, r4⟩, rz⟩ := five_zero (Owns.turnsW hT2 (by omega) HO1.out)
  have HB2 : Hid (Below w.heap.size w w2) := ⟨hT2.os.trans HB1.out.os, hT2.tape.trans HB1.out.tape, hT2.output.trans HB1.out.output, Nat.le_trans HB1.out.size hT2.size, fun b hb => (hT2.block b (by have := HB1.out.size; omega) (by simp; omega)).trans (HB1.out.block b hb)⟩
  have hw1 : w.heap.size < w1.heap.size := HO1.out.lt
  have HQ : Hid (VlQ w2 w1.heap.size 20 t [.int .i64 t.kind, .int .i64 t.num, .string t.text, .slice x t.list.length xc, .slice y t.names.length yc]) := hQ
  have HZ : Hid (SzLe t 100000) := hZ
  clear hQ hR2 hT2 hZ HR HO1 HB1
  go_wp2_with fail
  refine bodyPost_ret (v := .agg #[.int .i64 t.kind, .int .i64 t.num, .string t.text, .slice x t.list.length xc, .slice y t.names.length yc]) (by simp [results, Try.results14, go_sem, r0, r1, r2, r3, r4]) rfl ?_
  have hk : Keeps w1.heap.size w2 (w2.setCells w.heap.size 0 [.int .i64 t.kind, .int .i64 t.num, .string t.text, .slice x t.list.length xc, .slice y t.names.length yc]) := ⟨by rw [size_setCells]; exact Nat.le_refl _, fun k h1 _ => heap_setCells_ne _ _ _ _ (by omega)⟩
  exact ⟨t, x, xc, y, yc, rfl, VlQ.base (Nat.zero_le _) _ _ _ (VlQ.keeps hk _ _ _ HQ.out), Below.setCells (Nat.le_refl _) [.int .i64 t.kind, .int .i64 t.num, .string t.text, .slice x t.list.length xc, .slice y t.names.length yc] 0 HB2.out, HZ.out⟩

theorem vz_child {vz : Vl → Nat} {t x : Vl} (hv : IsVz vz) (hx : x ∈ t.list) : vz x < vz t := by
  have h1 := hv t
  have h2 := sumL_memZ (s := vz) hx
  omega
theorem dep_le_vz {dep vz : Vl → Nat} (hd : IsDep dep) (hv : IsVz vz) : ∀ (n : Nat) (t : Vl), vz t ≤ n → dep t ≤ vz t
  | 0, t, h => by have := hv t; omega
  | n + 1, t, h => by
    rw [hd t, hv t]
    have h1 : maxL dep t.list ≤ sumL vz t.list := maxL_le (fun x hx => by
      have h2 := vz_child hv hx
      have h3 := dep_le_vz hd hv n x (by omega)
      have h4 := sumL_memZ (s := vz) hx
      omega)
    omega

set_option maxHeartbeats 4000000 in
theorem size_main (dep sz vz : Vl → Nat) (hd : IsDep dep) (hsz : IsSz sz) (hvz : IsVz vz) (a : Option Addr) (n c : Nat) (w : World) (hn : n ≤ 1048576) (hc : n ≤ c) (h1 : CodeAt w a n) :
    Calls Try.prog 4 #[.slice a n c] w fun e w' => e = .returned (.bool true) ∧ Below w.heap.size w w' := by
  have b1 : decide ((1048576 : Int) < (n : Int)) = false := decide_eq_false (by omega)
  have H1 : Hid (CodeAt w a n) := h1
  clear h1
  go_enter Try.func4, Try.ntmps4
  go_wp2_with fail
  refine (drawValueSize_any a n c w hn hc H1.out).mono ?_
  rintro e w1 ⟨t, x, xc, y, yc, rfl, hQ, hb1, _⟩
  obtain ⟨W1, hW1⟩ : ∃ W1, W1 = w1.alloc (.cells #[.int .i64 t.kind, .int .i64 t.num, .string t.text, .slice x t.list.length xc, .slice y t.names.length yc] 26) := ⟨_, rfl⟩
  have hbW : Below w1.heap.size w1 W1 := by rw [hW1]; exact (Below.refl _ _).alloc (Nat.le_refl _) _
  have HQ : Hid (∀ W, Keeps 0 W1 W → VlQ W 0 20 t [.int .i64 t.kind, .int .i64 t.num, .string t.text, .slice x t.list.length xc, .slice y t.names.length yc]) := fun W h => VlQ.keeps ((Keeps.of_below hbW (Nat.le_refl _) 0).trans h) _ _ _ hQ
  have hO1 : Owns W1 w1.heap.size #[.int .i64 t.kind, .int .i64 t.num, .string t.text, .slice x t.list.length xc, .slice y t.names.length yc] 26 := by rw [hW1]; exact Owns.made _ _ _
  have HO : Hid (∀ W, Keeps 0 W1 W → Owns W w1.heap.size #[.int .i64 t.kind, .int .i64 t.num, .string t.text, .slice x t.list.length xc, .slice y t.names.length yc] 26) := fun W h => owns_keeps hO1 h
  have HB1 : Hid (Below w.heap.size w W1) := hb1.trans (hbW.mono hb1.size)
  have HD20 : Hid (dep t ≤ 20) := VlQ.depV hd _ _ _ hQ
  have HW1 : Hid (W1 = w1.alloc (.cells #[.int .i64 t.kind, .int .i64 t.num, .string t.text, .slice x t.list.length xc, .slice y t.names.length yc] 26)) := hW1
  clear hQ hb1 hbW hO1 hW1
  go_wp2_with fail
  rw [← HW1.out]
  clear HW1
  obtain ⟨V, hV⟩ : ∃ V, w1.heap.size = V := ⟨_, rfl⟩
  rw [hV] at HO ⊢
  clear hV
  obtain ⟨ok, hok⟩ : ∃ ok, okB false 6 t = ok := ⟨_, rfl⟩
  obtain ⟨D, hD⟩ : ∃ D, dep t = D := ⟨_, rfl⟩
  obtain ⟨S, hS⟩ : ∃ S, vsO vz t = S := ⟨_, rfl⟩
  refine (implValueSize_any vz hvz 20 t _ _ W1 (VlQ.read _ _ _ (HQ.out _ (Keeps.refl _ _)))).mono ?_
  rintro e w2 ⟨rfl, hb2⟩
  have HK2 : Hid (Keeps 0 W1 w2) := Keeps.of_below hb2 (Nat.le_refl _) 0
  have HB2 : Hid (Below w.heap.size w w2) := HB1.out.trans (hb2.mono HB1.out.size)
  obtain ⟨c0, c1, c2, c3, c4⟩ := five_ofV (HO.out w2 HK2.out).cell
  clear hb2 HB1
  rw [hS]
  have HS : Hid (vsO vz t = S) := hS
  have HOK : Hid (okB false 6 t = ok) := hok
  have HD : Hid (dep t = D) := hD
  have hD20 : (D : Int) ≤ 20 := by have := HD20.out; omega
  clear hok hD HD20 hS
  go_wp2_with fail
  refine (specValueSize_any vz hvz 20 t _ _ w2 (VlQ.read _ _ _ (HQ.out _ HK2.out))).mono ?_
  rintro e w3 ⟨rfl, hb3⟩
  have HK3 : Hid (Keeps 0 W1 w3) := keeps_belowV HK2.out hb3
  have HB3 : Hid (Below w.heap.size w w3) := HB2.out.trans (hb3.mono HB2.out.size)
  rw [HS.out]
  clear hb3 HB2 HK2 c0 c1 c2 c3 c4
  obtain ⟨c0, c1, c2, c3, c4⟩ := five_ofV (HO.out w3 HK3.out).cell
  have hSS : (S != S) = false := by simp
  go_wp2_with fail
  refine (specValueOk_any 20 t _ _ w3 (VlQ.read _ _ _ (HQ.out _ HK3.out))).mono ?_
  rintro e w4 ⟨rfl, hb4⟩
  have HK4 : Hid (Keeps 0 W1 w4) := keeps_belowV HK3.out hb4
  have HB4 : Hid (Below w.heap.size w w4) := HB3.out.trans (hb4.mono HB3.out.size)
  rw [HOK.out]
  clear hb4 HB3 HK3 c0 c1 c2 c3 c4
  cases ok
  · obtain ⟨c0, c1, c2, c3, c4⟩ := five_ofV (HO.out w4 HK4.out).cell
    go_wp2_with fail
    refine (specValueSize_any vz hvz 20 t _ _ w4 (VlQ.read _ _ _ (HQ.out _ HK4.out))).mono ?_
    rintro e w5 ⟨rfl, hb5⟩
    have HB5 : Hid (Below w.heap.size w w5) := HB4.out.trans (hb5.mono HB4.out.size)
    rw [HS.out]
    clear hb5 c0 c1 c2 c3 c4
    go_wp2_with fail
    go_ret
    exact ⟨by simp, HB5.out⟩
  · obtain ⟨Z, hZ⟩ : ∃ Z, vz t = Z := ⟨_, rfl⟩
    have hSZ : S = (Z : Int) := by rw [← HS.out, vsO_yes HOK.out, hZ]
    have hZ2 : (Z : Int) ≤ 2000000 := by
      have h1 := vz_ok hvz 6 t HOK.out
      have h2 : vzM 6 ≤ 2000000 := by decide
      omega
    have HZ : Hid (vz t = Z) := hZ
    have HDZ : Hid (D ≤ Z) := by
      show D ≤ Z
      have h1 := dep_le_vz hd hvz (vz t) t (Nat.le_refl _)
      have h2 := HD.out
      omega
    subst hSZ
    clear hZ HS
    have hl80 : t.list.length ≤ 140737488351232 := by
      obtain ⟨vl, vn, e, _, _, _, hrow, _, _⟩ := HQ.out _ HK4.out
      obtain ⟨_, _, _, h80, _⟩ := Row.len hrow
      omega
    have hl80i : (t.list.length : Int) ≤ 140737488351232 := by omega
    obtain ⟨c0, c1, c2, c3, c4⟩ := five_ofV (HO.out w4 HK4.out).cell
    go_wp2_with fail
    clear c0 c1 c2 c3 c4
    go_loopw [5, 6] (fun s i wr => ∃ j m : Nat, j ≤ t.list.length ∧ i = .int .i64 j ∧ s = .int .i64 (m : Int) ∧ Hid (m = sumL vz (t.list.take j) + 1) ∧ Hid (Below w4.heap.size w4 wr)) (fun _ i _ => t.list.length - (intOf i).toNat)
    case atStart => exact ⟨0, 1, Nat.zero_le _, rfl, rfl, (by show 1 = sumL vz (t.list.take 0) + 1; simp [sumL]), Below.refl _ _⟩
    case round =>
      obtain ⟨j, m, hj, rfl, rfl, HM, HB⟩ := hrel
      have HKr : Hid (Keeps 0 w4 wr) := Keeps.of_below HB.out (Nat.le_refl _) 0
      obtain ⟨c0, c1, c2, hv3, c4⟩ := five_ofV (HO.out wr (HK4.out.trans HKr.out)).cell
      have hjl : (j : Int) ≤ 140737488351232 := by omega
      have hmZ : m ≤ Z := by have h1 := HM.out; have h2 := sumL_takeZ vz t.list j; have h3 := hvz t; have h4 := HZ.out; omega
      have hmi : (m : Int) ≤ 2000000 := by omega
      by_cases hlt : j < t.list.length
      · have hlti : (j : Int) < (t.list.length : Int) := by omega
        obtain ⟨vl, vn, e, _, _, _, hrow, _, _⟩ := HQ.out _ HK4.out
        simp only [List.cons.injEq, true_and, and_true] at e
        obtain ⟨rfl, rfl⟩ := e
        obtain ⟨a', c', hv', _, hr⟩ := Row.len hrow
        obtain ⟨b, off, rfl, _, hcs⟩ := hr (List.ne_nil_of_length_pos (by omega))
        simp only [Value.slice.injEq, true_and] at hv'
        obtain ⟨rfl, rfl⟩ := hv'
        obtain ⟨cs, _, hc, hq⟩ := hcs j hlt
        obtain ⟨p, n1, p', n1', rfl⟩ := (VlQ.read _ _ _ hq).cells
        have HQJ : Hid (VlQ wr 0 19 t.list[j] [.int .i64 t.list[j].kind, .int .i64 t.list[j].num, .string t.list[j].text, .slice p t.list[j].list.length n1, .slice p' t.list[j].names.length n1']) := VlQ.keeps HKr.out _ _ _ hq
        have HOKJ : Hid (okB false 6 t.list[j] = true) := ok_childV (dep := dep) HOK.out (List.getElem_mem hlt)
        have HSJ : Hid (vsO vz t.list[j] = (vz t.list[j] : Int)) := vsO_yes HOKJ.out
        have HSU : Hid (sumL vz (t.list.take (j + 1)) + 1 = m + vz t.list[j]) := by show _ = _; rw [sumL_snocZ vz hlt]; have := HM.out; omega
        obtain ⟨x0, x1, x2, x3, x4⟩ := (hc.keeps HKr.out (Nat.zero_le _)).five
        have hdx : vz t.list[j] ≤ Z := by have h1 := vz_child hvz (List.getElem_mem hlt); have h3 := HZ.out; omega
        clear hrow hr hcs hc hq c0 c1 c2 c4
        generalize hdy : vz t.list[j] = dy at *
        have hdyi : (dy : Int) ≤ 2000000 := by omega
        go_wp2_with fail
        refine (implValueSize_any vz hvz 19 t.list[j] _ _ wr (VlQ.read _ _ _ HQJ.out)).mono ?_
        rintro e w7 ⟨rfl, hb7⟩
        have HB7 : Hid (Below w4.heap.size w4 w7) := HB.out.trans (hb7.mono HB.out.size)
        rw [HSJ.out]
        clear hb7 x0 x1 x2 x3 x4 hv3
        go_wp2_with fail
        exact ⟨⟨j + 1, m + dy, by omega, by go_num, by go_num, (by show m + dy = _; exact HSU.out.symm), HB7⟩, by simp [intOf]; omega⟩
      · obtain rfl : j = t.list.length := by omega
        obtain rfl : m = Z := by have h1 := HM.out; rw [List.take_length] at h1; have h2 := hvz t; have h3 := HZ.out; omega
        have HEND : Hid (Below w.heap.size w wr) := HB4.out.trans (HB.out.mono HB4.out.size)
        go_wp2_with fail
        refine (deepQ dep sz hd hsz 20 t x xc y yc wr (by omega) (HQ.out _ (HK4.out.trans HKr.out))).mono ?_
        rintro e w8 ⟨rfl, hb8⟩
        have HB8 : Hid (Below w.heap.size w w8) := HEND.out.trans (hb8.mono HEND.out.size)
        rw [HD.out]
        clear hb8 hv3 c0 c1 c2 c4
        go_wp2_with fail
        go_ret
        exact ⟨by show Ending.returned (.bool (decide (D ≤ m))) = _; rw [decide_eq_true HDZ.out], HB8.out⟩

end Go.Proofs.Ytedeeckbgjalcaa
