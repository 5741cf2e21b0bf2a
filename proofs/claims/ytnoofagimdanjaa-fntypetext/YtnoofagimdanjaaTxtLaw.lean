/-
  DERIVED. laws.FnTypeText: its walk out of the contracts.
-/
import Derived.Test.YtnoofagimdanjaaTxtFacts
namespace Go.Proofs.Ytnoofagimdanjaa
open Go.RowKit
set_option linter.unusedVariables false
set_option linter.unusedSimpArgs false

theorem CodeAt.below {w w' : World} {a : Option Addr} {n : Nat} (h : CodeAt w a n) (hb : Below w.heap.size w w') : CodeAt w' a n := fun i hi => by
  obtain ⟨b, off, z, h1, h2, h3⟩ := h i hi
  exact ⟨b, off, z, h1, h2, cell_on hb h3⟩

theorem putT_size (t : Ty) : (putT t).size ≤ 21 := by
  cases hf : formedB 3 t
  · rw [putT_no hf]; simp
  · rw [putT_yes hf]; exact textT_size 3 t hf

theorem Below.made {w w1 : World} {B : Nat} (h : Below B w w1) (o : Obj) (hB : B ≤ w1.heap.size) : Below B w (w1.alloc o) := h.alloc hB o

set_option maxHeartbeats 4000000 in
theorem law_main (a a' : Option Addr) (n n' c c' : Nat) (w : World) (hn : n ≤ 1048576) (hn' : n' ≤ 1048576) (hc : n ≤ c) (hc' : n' ≤ c') (h1 : CodeAt w a n) (h2 : CodeAt w a' n') :
    Calls Try.prog 3 #[.slice a n c, .slice a' n' c'] w fun e w' => e = .returned (.bool true) ∧ Below w.heap.size w w' := by
  have b1 : decide ((1048576 : Int) < (n : Int)) = false := decide_eq_false (by omega)
  have b2 : decide ((1048576 : Int) < (n' : Int)) = false := decide_eq_false (by omega)
  have H1 : Hid (CodeAt w a n) := h1
  have H2 : Hid (CodeAt w a' n') := h2
  clear h1 h2
  go_enter Try.func3, Try.ntmps3
  go_wp2_with fail
  refine (DrawTypePut_any a n c w hn hc H1.out).mono ?_
  rintro e w1 ⟨t, x, m, k, rfl, hT1, hb1⟩
  have hs1 := hb1.size
  obtain ⟨o1, ho1⟩ : ∃ o1, o1 = Obj.cells #[.string t.name, .slice x t.of.length m, .bool t.must] 25 := ⟨_, rfl⟩
  have HT1 : Hid (∀ W, Keeps 0 (w1.alloc (.cells #[.string t.name, .slice x t.of.length m, .bool t.must] 25)) W → TyR W 0 k t [.string t.name, .slice x t.of.length m, .bool t.must]) := fun W h => TyR.keeps (((Keeps.refl _ _).alloc _).trans h) _ _ _ (TyR.base (Nat.zero_le _) _ _ _ hT1)
  have HB1 : Hid (Below w.heap.size w (w1.alloc (.cells #[.string t.name, .slice x t.of.length m, .bool t.must] 25))) := hb1.alloc hs1 _
  have HO1 : Hid (Owns (w1.alloc (.cells #[.string t.name, .slice x t.of.length m, .bool t.must] 25)) w1.heap.size #[.string t.name, .slice x t.of.length m, .bool t.must] 25) := Owns.made _ _ _
  clear hT1 hb1 ho1 o1
  go_wp2_with fail
  refine (implTypePut_any k t _ _ (HT1.out _ (Keeps.refl _ _))).mono ?_
  rintro e w2 ⟨rfl, hb2⟩
  have hs2 := hb2.size
  simp at hs2
  have HB2 : Hid (Below w.heap.size w w2) := HB1.out.trans (hb2.mono (by simp; omega))
  have HO2 : Hid (Owns w2 w1.heap.size #[.string t.name, .slice x t.of.length m, .bool t.must] 25) := HO1.out.below hb2 (by simp)
  have HT2 : Hid (∀ W, Keeps 0 w2 W → TyR W 0 k t [.string t.name, .slice x t.of.length m, .bool t.must]) := fun W h => HT1.out W ((Keeps.of_below hb2 (Nat.le_refl _) _).trans h)
  clear hb2 HT1 HO1 HB1
  have hps := putT_size t
  obtain ⟨tb, htb⟩ : ∃ tb, w1.heap.size = tb := ⟨_, rfl⟩
  rw [htb] at hs1 hs2 HO2
  rw [htb]
  clear htb H1
  rcases read_put t with ⟨hf, hrd, hne⟩ | ⟨hf, hrd, hem⟩
  · obtain ⟨s, hs⟩ : ∃ s, putT t = s := ⟨_, rfl⟩
    rw [hs] at hrd hps hne
    rw [hs]
    have HS : Hid (putT t = s) := hs
    have HRD : Hid (readL 3 (s).data.toList = some t) := hrd
    clear hs hrd
    go_wp2_with fail
    refine (implTypeGet_any s _ (by omega)).mono ?_
    intro e w3 hp
    rw [HRD.out] at hp
    obtain ⟨a3, c3, rfl, hR3, hb3⟩ := uniO hp
    have hs3 := hb3.size
    have HB3 : Hid (Below w.heap.size w w3) := HB2.out.trans (hb3.mono (by omega))
    have HO3 : Hid (Owns w3 tb #[.string t.name, .slice x t.of.length m, .bool t.must] 25) := HO2.out.below hb3 (by omega)
    have HT3 : Hid (∀ W, Keeps 0 w3 W → TyR W 0 k t [.string t.name, .slice x t.of.length m, .bool t.must]) := fun W h => HT2.out W ((Keeps.of_below hb3 (Nat.le_refl _) _).trans h)
    have q0 : w3.cell? ⟨tb, 0, none⟩ = some (.string t.name) := by rw [HO3.out.cell]; rfl
    have q1 : w3.cell? ⟨tb, 1, none⟩ = some (.slice x t.of.length m) := by rw [HO3.out.cell]; rfl
    have q2 : w3.cell? ⟨tb, 2, none⟩ = some (.bool t.must) := by rw [HO3.out.cell]; rfl
    have t3 : tb < w3.heap.size := by omega
    have HG3 : Hid (∀ W, Keeps 0 w3 W → TyR W 0 3 (tyOf (some t)) [.string (tyOf (some t)).name, .slice a3 (tyOf (some t)).of.length c3, .bool (tyOf (some t)).must]) := fun W h => TyR.keeps h _ _ _ (TyR.base (Nat.zero_le _) _ _ _ hR3)
    simp only [tyOf, Option.isSome] at HG3 ⊢
    clear hp hR3 hb3 HB2 HO2 HT2 HRD
    go_wp2_with fail
    obtain ⟨O3, hO3⟩ : ∃ O3 : Obj, O3 = .cells #[.string t.name, .slice a3 t.of.length c3, .bool t.must] 25 := ⟨_, rfl⟩
    have HX3 : Hid (Owns (w3.alloc (.cells #[.string t.name, .slice a3 t.of.length c3, .bool t.must] 25)) w3.heap.size #[.string t.name, .slice a3 t.of.length c3, .bool t.must] 25) := Owns.made _ _ _
    have HB3' : Hid (Below w3.heap.size w3 (w3.alloc (.cells #[.string t.name, .slice a3 t.of.length c3, .bool t.must] 25))) := (Below.refl _ _).alloc (Nat.le_refl _) _
    refine (specTypePut_any k t _ _ (HT3.out _ ((Keeps.refl _ _).alloc _))).mono ?_
    rintro e w4 ⟨rfl, hb4⟩
    rw [HS.out]
    have hs4 := hb4.size
    simp at hs4
    have HB4 : Hid (Below w3.heap.size w3 w4) := HB3'.out.trans (hb4.mono (by simp))
    have HX4 : Hid (Owns w4 w3.heap.size #[.string t.name, .slice a3 t.of.length c3, .bool t.must] 25) := HX3.out.below hb4 (by simp)
    have HO4 : Hid (Owns w4 tb #[.string t.name, .slice x t.of.length m, .bool t.must] 25) := HO3.out.below HB4.out t3
    have r0 : w4.cell? ⟨tb, 0, none⟩ = some (.string t.name) := by rw [HO4.out.cell]; rfl
    have r1 : w4.cell? ⟨tb, 1, none⟩ = some (.slice x t.of.length m) := by rw [HO4.out.cell]; rfl
    have r2 : w4.cell? ⟨tb, 2, none⟩ = some (.bool t.must) := by rw [HO4.out.cell]; rfl
    have y0 : w4.cell? ⟨w3.heap.size, 0, none⟩ = some (.string t.name) := (by rw [HX4.out.cell]; rfl)
    have y1 : w4.cell? ⟨w3.heap.size, 1, none⟩ = some (.slice a3 t.of.length c3) := (by rw [HX4.out.cell]; rfl)
    have y2 : w4.cell? ⟨w3.heap.size, 2, none⟩ = some (.bool t.must) := (by rw [HX4.out.cell]; rfl)
    have hE : s.toList.isEmpty = false := (by rw [ByteArray.toList_eq]; cases h : s.data.toList with
      | nil => exact absurd h hne
      | cons _ _ => rfl)
    clear hb4 HB3' hO3 O3 q0 q1 q2
    go_wp2_with fail
    refine (pg_all (k + 3) t _ _ _ (TyR.deeper (by omega) (HG3.out w4 (Keeps.of_below HB4.out (Nat.le_refl _) _))) (TyR.deeper (by omega) (HT3.out w4 (Keeps.of_below HB4.out (Nat.le_refl _) _)))).mono ?_
    rintro e w5 ⟨rfl, hb5⟩
    have HB5 : Hid (Below w.heap.size w w5) := (HB3.out.trans (HB4.out.mono (by omega))).trans (hb5.mono (by omega))
    clear hb5 y0 y1 y2 r0 r1 r2 HB4 HX4 HO4 HX3 HT3 HG3 HO3
    go_wp2_with fail
    refine (DrawTypeGet_any a' n' c' _ hn' hc' (H2.out.below HB5.out)).mono ?_
    rintro e w6 ⟨u, rfl, hu, hb6⟩
    have HB6 : Hid (Below w.heap.size w w6) := HB5.out.trans (hb6.mono HB5.out.size)
    clear hb6 HB5
    cases ho : readL 3 u.data.toList with
    | none =>
      have HO : Hid (readL 3 u.data.toList = none) := ho
      clear ho
      go_wp2_with fail
      refine (implTypeGet_any u _ (by omega)).mono ?_
      intro e w7 hp
      rw [HO.out] at hp
      obtain ⟨a7, c7, rfl, hR7, hb7⟩ := uniO hp
      simp only [tyOf, Option.isSome] at hR7 ⊢
      have HB7 : Hid (Below w.heap.size w w7) := HB6.out.trans (hb7.mono HB6.out.size)
      have HG7 : Hid (∀ W, Keeps 0 w7 W → TyR W 0 3 ⟨ByteArray.empty, [], false⟩ [.string ⟨#[]⟩, .slice a7 0 c7, .bool false]) := fun W h => TyR.keeps h _ _ _ (TyR.base (Nat.zero_le _) _ _ _ hR7)
      have HX7 : Hid (Owns (w7.alloc (.cells #[.string ⟨#[]⟩, .slice a7 0 c7, .bool false] 25)) w7.heap.size #[.string ⟨#[]⟩, .slice a7 0 c7, .bool false] 25) := Owns.made _ _ _
      clear hp hR7 hb7 HB6
      go_wp2_with fail
      refine (specTypeGet_any u _ (by omega)).mono ?_
      intro e w8 hp
      rw [specT_eq, HO.out] at hp
      obtain ⟨a8, c8, rfl, hR8, hb8⟩ := uniK hp
      simp only [tyOf, Option.isSome] at hR8 ⊢
      have hs8 := hb8.size
      simp at hs8
      have l8 : w7.heap.size < w8.heap.size := by omega
      have HB8 : Hid (Below w.heap.size w w8) := (HB7.out.alloc HB7.out.size _).trans (hb8.mono (by simp; have := HB7.out.size; omega))
      have HK8 : Hid (Keeps 0 w7 w8) := ((Keeps.refl _ _).alloc _).trans (Keeps.of_below hb8 (Nat.le_refl _) _)
      have HX8 : Hid (Owns w8 w7.heap.size #[.string ⟨#[]⟩, .slice a7 0 c7, .bool false] 25) := HX7.out.below hb8 (by simp)
      have HG8 : Hid (∀ W, Keeps 0 w8 W → TyR W 0 3 ⟨ByteArray.empty, [], false⟩ [.string ⟨#[]⟩, .slice a8 0 c8, .bool false]) := fun W h => TyR.keeps h _ _ _ (TyR.base (Nat.zero_le _) _ _ _ hR8)
      have y0 : w8.cell? ⟨w7.heap.size, 0, none⟩ = some (.string ⟨#[]⟩) := by rw [HX8.out.cell]; rfl
      have y1 : w8.cell? ⟨w7.heap.size, 1, none⟩ = some (.slice a7 0 c7) := by rw [HX8.out.cell]; rfl
      have y2 : w8.cell? ⟨w7.heap.size, 2, none⟩ = some (.bool false) := by rw [HX8.out.cell]; rfl
      clear hp hR8 hb8 HX7
      go_wp2_with fail
      refine (pg_all 3 ⟨ByteArray.empty, [], false⟩ _ _ _ (HG7.out _ (HK8.out.alloc _)) (HG8.out _ ((Keeps.refl _ _).alloc _))).mono ?_
      rintro e w9 ⟨rfl, hb9⟩
      have hs9 := hb9.size
      simp at hs9
      have HB9 : Hid (Below w.heap.size w w9) := (HB8.out.alloc HB8.out.size _).trans (hb9.mono (by simp; have := HB8.out.size; omega))
      have HK9 : Hid (Keeps 0 w8 w9) := ((Keeps.refl _ _).alloc _).trans (Keeps.of_below hb9 (Nat.le_refl _) _)
      have z0 : w9.cell? ⟨w7.heap.size, 0, none⟩ = some (.string ⟨#[]⟩) := HK9.out.cell (Nat.zero_le _) y0
      have z1 : w9.cell? ⟨w7.heap.size, 1, none⟩ = some (.slice a7 0 c7) := HK9.out.cell (Nat.zero_le _) y1
      have z2 : w9.cell? ⟨w7.heap.size, 2, none⟩ = some (.bool false) := HK9.out.cell (Nat.zero_le _) y2
      clear hb9 y0 y1 y2
      go_wp2_with fail
      go_ret
      exact ⟨rfl, HB9.out⟩
    | some y =>
      have HO : Hid (readL 3 u.data.toList = some y) := ho
      clear ho
      go_wp2_with fail
      refine (implTypeGet_any u _ (by omega)).mono ?_
      intro e w7 hp
      rw [HO.out] at hp
      obtain ⟨a7, c7, rfl, hR7, hb7⟩ := uniO hp
      simp only [tyOf, Option.isSome] at hR7 ⊢
      have HB7 : Hid (Below w.heap.size w w7) := HB6.out.trans (hb7.mono HB6.out.size)
      have HG7 : Hid (∀ W, Keeps 0 w7 W → TyR W 0 3 y [.string y.name, .slice a7 y.of.length c7, .bool y.must]) := fun W h => TyR.keeps h _ _ _ (TyR.base (Nat.zero_le _) _ _ _ hR7)
      have HX7 : Hid (Owns (w7.alloc (.cells #[.string y.name, .slice a7 y.of.length c7, .bool y.must] 25)) w7.heap.size #[.string y.name, .slice a7 y.of.length c7, .bool y.must] 25) := Owns.made _ _ _
      clear hp hR7 hb7 HB6
      go_wp2_with fail
      refine (specTypeGet_any u _ (by omega)).mono ?_
      intro e w8 hp
      rw [specT_eq, HO.out] at hp
      obtain ⟨a8, c8, rfl, hR8, hb8⟩ := uniK hp
      simp only [tyOf, Option.isSome] at hR8 ⊢
      have hs8 := hb8.size
      simp at hs8
      have l8 : w7.heap.size < w8.heap.size := by omega
      have HB8 : Hid (Below w.heap.size w w8) := (HB7.out.alloc HB7.out.size _).trans (hb8.mono (by simp; have := HB7.out.size; omega))
      have HK8 : Hid (Keeps 0 w7 w8) := ((Keeps.refl _ _).alloc _).trans (Keeps.of_below hb8 (Nat.le_refl _) _)
      have HX8 : Hid (Owns w8 w7.heap.size #[.string y.name, .slice a7 y.of.length c7, .bool y.must] 25) := HX7.out.below hb8 (by simp)
      have HG8 : Hid (∀ W, Keeps 0 w8 W → TyR W 0 3 y [.string y.name, .slice a8 y.of.length c8, .bool y.must]) := fun W h => TyR.keeps h _ _ _ (TyR.base (Nat.zero_le _) _ _ _ hR8)
      have y0 : w8.cell? ⟨w7.heap.size, 0, none⟩ = some (.string y.name) := by rw [HX8.out.cell]; rfl
      have y1 : w8.cell? ⟨w7.heap.size, 1, none⟩ = some (.slice a7 y.of.length c7) := by rw [HX8.out.cell]; rfl
      have y2 : w8.cell? ⟨w7.heap.size, 2, none⟩ = some (.bool y.must) := by rw [HX8.out.cell]; rfl
      clear hp hR8 hb8 HX7
      go_wp2_with fail
      refine (pg_all 3 y _ _ _ (HG7.out _ (HK8.out.alloc _)) (HG8.out _ ((Keeps.refl _ _).alloc _))).mono ?_
      rintro e w9 ⟨rfl, hb9⟩
      have hs9 := hb9.size
      simp at hs9
      have HB9 : Hid (Below w.heap.size w w9) := (HB8.out.alloc HB8.out.size _).trans (hb9.mono (by simp; have := HB8.out.size; omega))
      have HK9 : Hid (Keeps 0 w8 w9) := ((Keeps.refl _ _).alloc _).trans (Keeps.of_below hb9 (Nat.le_refl _) _)
      have z0 : w9.cell? ⟨w7.heap.size, 0, none⟩ = some (.string y.name) := HK9.out.cell (Nat.zero_le _) y0
      have z1 : w9.cell? ⟨w7.heap.size, 1, none⟩ = some (.slice a7 y.of.length c7) := HK9.out.cell (Nat.zero_le _) y1
      have z2 : w9.cell? ⟨w7.heap.size, 2, none⟩ = some (.bool y.must) := HK9.out.cell (Nat.zero_le _) y2
      clear hb9 y0 y1 y2
      go_wp2_with fail
      refine (implTypePut_any 3 y _ _ (HG7.out _ (HK8.out.trans HK9.out))).mono ?_
      rintro e w10 ⟨rfl, hb10⟩
      rw [put_read HO.out]
      have HB10 : Hid (Below w.heap.size w w10) := HB9.out.trans (hb10.mono HB9.out.size)
      clear hb10 z0 z1 z2
      go_wp2_with fail
      go_ret
      exact ⟨rfl, HB10.out⟩
  · obtain ⟨s, hs⟩ : ∃ s, putT t = s := ⟨_, rfl⟩
    rw [hs] at hrd hps hem
    rw [hs]
    subst hem
    have HS : Hid (putT t = ByteArray.empty) := hs
    have HRD : Hid (readL 3 (ByteArray.empty).data.toList = (none : Option Ty)) := hrd
    clear hs hrd
    go_wp2_with fail
    refine (implTypeGet_any ByteArray.empty _ (by omega)).mono ?_
    intro e w3 hp
    rw [HRD.out] at hp
    obtain ⟨a3, c3, rfl, hR3, hb3⟩ := uniO hp
    have hs3 := hb3.size
    have HB3 : Hid (Below w.heap.size w w3) := HB2.out.trans (hb3.mono (by omega))
    have HO3 : Hid (Owns w3 tb #[.string t.name, .slice x t.of.length m, .bool t.must] 25) := HO2.out.below hb3 (by omega)
    have HT3 : Hid (∀ W, Keeps 0 w3 W → TyR W 0 k t [.string t.name, .slice x t.of.length m, .bool t.must]) := fun W h => HT2.out W ((Keeps.of_below hb3 (Nat.le_refl _) _).trans h)
    have q0 : w3.cell? ⟨tb, 0, none⟩ = some (.string t.name) := by rw [HO3.out.cell]; rfl
    have q1 : w3.cell? ⟨tb, 1, none⟩ = some (.slice x t.of.length m) := by rw [HO3.out.cell]; rfl
    have q2 : w3.cell? ⟨tb, 2, none⟩ = some (.bool t.must) := by rw [HO3.out.cell]; rfl
    have t3 : tb < w3.heap.size := by omega
    have HG3 : Hid (∀ W, Keeps 0 w3 W → TyR W 0 3 (tyOf ((none : Option Ty))) [.string (tyOf ((none : Option Ty))).name, .slice a3 (tyOf ((none : Option Ty))).of.length c3, .bool (tyOf ((none : Option Ty))).must]) := fun W h => TyR.keeps h _ _ _ (TyR.base (Nat.zero_le _) _ _ _ hR3)
    simp only [tyOf, Option.isSome] at HG3 ⊢
    clear hp hR3 hb3 HB2 HO2 HT2 HRD
    go_wp2_with fail
    obtain ⟨O3, hO3⟩ : ∃ O3 : Obj, O3 = .cells #[.string ⟨#[]⟩, .slice a3 0 c3, .bool false] 25 := ⟨_, rfl⟩
    have HX3 : Hid (Owns (w3.alloc (.cells #[.string ⟨#[]⟩, .slice a3 0 c3, .bool false] 25)) w3.heap.size #[.string ⟨#[]⟩, .slice a3 0 c3, .bool false] 25) := Owns.made _ _ _
    have HB3' : Hid (Below w3.heap.size w3 (w3.alloc (.cells #[.string ⟨#[]⟩, .slice a3 0 c3, .bool false] 25))) := (Below.refl _ _).alloc (Nat.le_refl _) _
    refine (specTypePut_any k t _ _ (HT3.out _ ((Keeps.refl _ _).alloc _))).mono ?_
    rintro e w4 ⟨rfl, hb4⟩
    rw [HS.out]
    have hs4 := hb4.size
    simp at hs4
    have HB4 : Hid (Below w3.heap.size w3 w4) := HB3'.out.trans (hb4.mono (by simp))
    have HX4 : Hid (Owns w4 w3.heap.size #[.string ⟨#[]⟩, .slice a3 0 c3, .bool false] 25) := HX3.out.below hb4 (by simp)
    have HO4 : Hid (Owns w4 tb #[.string t.name, .slice x t.of.length m, .bool t.must] 25) := HO3.out.below HB4.out t3
    have r0 : w4.cell? ⟨tb, 0, none⟩ = some (.string t.name) := by rw [HO4.out.cell]; rfl
    have r1 : w4.cell? ⟨tb, 1, none⟩ = some (.slice x t.of.length m) := by rw [HO4.out.cell]; rfl
    have r2 : w4.cell? ⟨tb, 2, none⟩ = some (.bool t.must) := by rw [HO4.out.cell]; rfl
    skip
    skip
    clear hb4 HB3' hO3 O3 q0 q1 q2
    go_wp2_with fail
    have HB5 : Hid (Below w.heap.size w w4) := HB3.out.trans (HB4.out.mono (by omega))
    clear r0 r1 r2 HB4 HX4 HO4 HX3 HT3 HG3 HO3
    refine (DrawTypeGet_any a' n' c' _ hn' hc' (H2.out.below HB5.out)).mono ?_
    rintro e w6 ⟨u, rfl, hu, hb6⟩
    have HB6 : Hid (Below w.heap.size w w6) := HB5.out.trans (hb6.mono HB5.out.size)
    clear hb6 HB5
    cases ho : readL 3 u.data.toList with
    | none =>
      have HO : Hid (readL 3 u.data.toList = none) := ho
      clear ho
      go_wp2_with fail
      refine (implTypeGet_any u _ (by omega)).mono ?_
      intro e w7 hp
      rw [HO.out] at hp
      obtain ⟨a7, c7, rfl, hR7, hb7⟩ := uniO hp
      simp only [tyOf, Option.isSome] at hR7 ⊢
      have HB7 : Hid (Below w.heap.size w w7) := HB6.out.trans (hb7.mono HB6.out.size)
      have HG7 : Hid (∀ W, Keeps 0 w7 W → TyR W 0 3 ⟨ByteArray.empty, [], false⟩ [.string ⟨#[]⟩, .slice a7 0 c7, .bool false]) := fun W h => TyR.keeps h _ _ _ (TyR.base (Nat.zero_le _) _ _ _ hR7)
      have HX7 : Hid (Owns (w7.alloc (.cells #[.string ⟨#[]⟩, .slice a7 0 c7, .bool false] 25)) w7.heap.size #[.string ⟨#[]⟩, .slice a7 0 c7, .bool false] 25) := Owns.made _ _ _
      clear hp hR7 hb7 HB6
      go_wp2_with fail
      refine (specTypeGet_any u _ (by omega)).mono ?_
      intro e w8 hp
      rw [specT_eq, HO.out] at hp
      obtain ⟨a8, c8, rfl, hR8, hb8⟩ := uniK hp
      simp only [tyOf, Option.isSome] at hR8 ⊢
      have hs8 := hb8.size
      simp at hs8
      have l8 : w7.heap.size < w8.heap.size := by omega
      have HB8 : Hid (Below w.heap.size w w8) := (HB7.out.alloc HB7.out.size _).trans (hb8.mono (by simp; have := HB7.out.size; omega))
      have HK8 : Hid (Keeps 0 w7 w8) := ((Keeps.refl _ _).alloc _).trans (Keeps.of_below hb8 (Nat.le_refl _) _)
      have HX8 : Hid (Owns w8 w7.heap.size #[.string ⟨#[]⟩, .slice a7 0 c7, .bool false] 25) := HX7.out.below hb8 (by simp)
      have HG8 : Hid (∀ W, Keeps 0 w8 W → TyR W 0 3 ⟨ByteArray.empty, [], false⟩ [.string ⟨#[]⟩, .slice a8 0 c8, .bool false]) := fun W h => TyR.keeps h _ _ _ (TyR.base (Nat.zero_le _) _ _ _ hR8)
      have y0 : w8.cell? ⟨w7.heap.size, 0, none⟩ = some (.string ⟨#[]⟩) := by rw [HX8.out.cell]; rfl
      have y1 : w8.cell? ⟨w7.heap.size, 1, none⟩ = some (.slice a7 0 c7) := by rw [HX8.out.cell]; rfl
      have y2 : w8.cell? ⟨w7.heap.size, 2, none⟩ = some (.bool false) := by rw [HX8.out.cell]; rfl
      clear hp hR8 hb8 HX7
      go_wp2_with fail
      refine (pg_all 3 ⟨ByteArray.empty, [], false⟩ _ _ _ (HG7.out _ (HK8.out.alloc _)) (HG8.out _ ((Keeps.refl _ _).alloc _))).mono ?_
      rintro e w9 ⟨rfl, hb9⟩
      have hs9 := hb9.size
      simp at hs9
      have HB9 : Hid (Below w.heap.size w w9) := (HB8.out.alloc HB8.out.size _).trans (hb9.mono (by simp; have := HB8.out.size; omega))
      have HK9 : Hid (Keeps 0 w8 w9) := ((Keeps.refl _ _).alloc _).trans (Keeps.of_below hb9 (Nat.le_refl _) _)
      have z0 : w9.cell? ⟨w7.heap.size, 0, none⟩ = some (.string ⟨#[]⟩) := HK9.out.cell (Nat.zero_le _) y0
      have z1 : w9.cell? ⟨w7.heap.size, 1, none⟩ = some (.slice a7 0 c7) := HK9.out.cell (Nat.zero_le _) y1
      have z2 : w9.cell? ⟨w7.heap.size, 2, none⟩ = some (.bool false) := HK9.out.cell (Nat.zero_le _) y2
      clear hb9 y0 y1 y2
      go_wp2_with fail
      go_ret
      exact ⟨rfl, HB9.out⟩
    | some y =>
      have HO : Hid (readL 3 u.data.toList = some y) := ho
      clear ho
      go_wp2_with fail
      refine (implTypeGet_any u _ (by omega)).mono ?_
      intro e w7 hp
      rw [HO.out] at hp
      obtain ⟨a7, c7, rfl, hR7, hb7⟩ := uniO hp
      simp only [tyOf, Option.isSome] at hR7 ⊢
      have HB7 : Hid (Below w.heap.size w w7) := HB6.out.trans (hb7.mono HB6.out.size)
      have HG7 : Hid (∀ W, Keeps 0 w7 W → TyR W 0 3 y [.string y.name, .slice a7 y.of.length c7, .bool y.must]) := fun W h => TyR.keeps h _ _ _ (TyR.base (Nat.zero_le _) _ _ _ hR7)
      have HX7 : Hid (Owns (w7.alloc (.cells #[.string y.name, .slice a7 y.of.length c7, .bool y.must] 25)) w7.heap.size #[.string y.name, .slice a7 y.of.length c7, .bool y.must] 25) := Owns.made _ _ _
      clear hp hR7 hb7 HB6
      go_wp2_with fail
      refine (specTypeGet_any u _ (by omega)).mono ?_
      intro e w8 hp
      rw [specT_eq, HO.out] at hp
      obtain ⟨a8, c8, rfl, hR8, hb8⟩ := uniK hp
      simp only [tyOf, Option.isSome] at hR8 ⊢
      have hs8 := hb8.size
      simp at hs8
      have l8 : w7.heap.size < w8.heap.size := by omega
      have HB8 : Hid (Below w.heap.size w w8) := (HB7.out.alloc HB7.out.size _).trans (hb8.mono (by simp; have := HB7.out.size; omega))
      have HK8 : Hid (Keeps 0 w7 w8) := ((Keeps.refl _ _).alloc _).trans (Keeps.of_below hb8 (Nat.le_refl _) _)
      have HX8 : Hid (Owns w8 w7.heap.size #[.string y.name, .slice a7 y.of.length c7, .bool y.must] 25) := HX7.out.below hb8 (by simp)
      have HG8 : Hid (∀ W, Keeps 0 w8 W → TyR W 0 3 y [.string y.name, .slice a8 y.of.length c8, .bool y.must]) := fun W h => TyR.keeps h _ _ _ (TyR.base (Nat.zero_le _) _ _ _ hR8)
      have y0 : w8.cell? ⟨w7.heap.size, 0, none⟩ = some (.string y.name) := by rw [HX8.out.cell]; rfl
      have y1 : w8.cell? ⟨w7.heap.size, 1, none⟩ = some (.slice a7 y.of.length c7) := by rw [HX8.out.cell]; rfl
      have y2 : w8.cell? ⟨w7.heap.size, 2, none⟩ = some (.bool y.must) := by rw [HX8.out.cell]; rfl
      clear hp hR8 hb8 HX7
      go_wp2_with fail
      refine (pg_all 3 y _ _ _ (HG7.out _ (HK8.out.alloc _)) (HG8.out _ ((Keeps.refl _ _).alloc _))).mono ?_
      rintro e w9 ⟨rfl, hb9⟩
      have hs9 := hb9.size
      simp at hs9
      have HB9 : Hid (Below w.heap.size w w9) := (HB8.out.alloc HB8.out.size _).trans (hb9.mono (by simp; have := HB8.out.size; omega))
      have HK9 : Hid (Keeps 0 w8 w9) := ((Keeps.refl _ _).alloc _).trans (Keeps.of_below hb9 (Nat.le_refl _) _)
      have z0 : w9.cell? ⟨w7.heap.size, 0, none⟩ = some (.string y.name) := HK9.out.cell (Nat.zero_le _) y0
      have z1 : w9.cell? ⟨w7.heap.size, 1, none⟩ = some (.slice a7 y.of.length c7) := HK9.out.cell (Nat.zero_le _) y1
      have z2 : w9.cell? ⟨w7.heap.size, 2, none⟩ = some (.bool y.must) := HK9.out.cell (Nat.zero_le _) y2
      clear hb9 y0 y1 y2
      go_wp2_with fail
      refine (implTypePut_any 3 y _ _ (HG7.out _ (HK8.out.trans HK9.out))).mono ?_
      rintro e w10 ⟨rfl, hb10⟩
      rw [put_read HO.out]
      have HB10 : Hid (Below w.heap.size w w10) := HB9.out.trans (hb10.mono HB9.out.size)
      clear hb10 z0 z1 z2
      go_wp2_with fail
      go_ret
      exact ⟨rfl, HB10.out⟩

end Go.Proofs.Ytnoofagimdanjaa
