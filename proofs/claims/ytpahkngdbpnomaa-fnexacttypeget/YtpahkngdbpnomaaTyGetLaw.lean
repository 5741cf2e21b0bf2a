/-
  DERIVED. laws.FnExactTypeGet: its walk out of the contracts.
-/
import Derived.Test.YtpahkngdbpnomaaTyGetI
import Derived.Test.YtpahkngdbpnomaaTyMark
import Derived.Test.YtpahkngdbpnomaaTyEq
namespace Go.Proofs.Ytpahkngdbpnomaa
open Go.RowKit
set_option linter.unusedVariables false
set_option linter.unusedSimpArgs false

def tyOf (o : Option Ty) : Ty := match o with | some t => t | none => ⟨ByteArray.empty, [], false⟩

theorem uniK {o : Option Ty} {w w' : World} {e : Ending} (h : TyPostK 3 o w e w') :
    ∃ a c, e = .returned (.tuple #[.agg #[.string (tyOf o).name, .slice a (tyOf o).of.length c, .bool (tyOf o).must], .bool o.isSome]) ∧ TyR w' w.heap.size 3 (tyOf o) [.string (tyOf o).name, .slice a (tyOf o).of.length c, .bool (tyOf o).must] ∧ Below w.heap.size w w' := by
  obtain ⟨h1, h2⟩ := h
  cases o with
  | none => exact ⟨none, 0, h1, ⟨_, rfl, by simp [tyOf], Or.inl ⟨rfl, rfl⟩⟩, h2⟩
  | some t => obtain ⟨a, c, he, hR⟩ := h1; exact ⟨a, c, he, hR, h2⟩
theorem uniO {o : Option Ty} {w w' : World} {e : Ending} (h : TyPostO 3 o w e w') :
    ∃ a c bs, e = .returned (.tuple #[.agg #[.string (tyOf o).name, .slice a (tyOf o).of.length c, .bool (tyOf o).must], .bool o.isSome]) ∧ TyR w' w.heap.size 3 (tyOf o) [.string (tyOf o).name, .slice a (tyOf o).of.length c, .bool (tyOf o).must] ∧
      bs.length ≤ 3 ∧ (∀ b ∈ bs, w.heap.size ≤ b) ∧ TyO 24 w' bs (tyOf o) [.string (tyOf o).name, .slice a (tyOf o).of.length c, .bool (tyOf o).must] ∧ Below w.heap.size w w' := by
  obtain ⟨h1, h2⟩ := h
  cases o with
  | none => exact ⟨none, 0, [], h1, ⟨_, rfl, by simp [tyOf], Or.inl ⟨rfl, rfl⟩⟩, by simp, fun b hb => by simp at hb, ⟨rfl, rfl⟩, h2⟩
  | some t => obtain ⟨a, c, he, hR, bs, hb1, hb2, hO⟩ := h1; exact ⟨a, c, bs, he, hR, hb1, hb2, hO, h2⟩

theorem cell_turn {bs : List Nat} {w w' : World} (h : Turns bs w w') {p : Addr} {v : Value} (hp : p.block ∉ bs) (hc : w.cell? p = some v) : w'.cell? p = some v := by
  rw [World.cell?_of_block (w := w) (h.block p.block (cell_lt hc) hp)]
  exact hc

theorem mark_one (bs : List Nat) (t : Ty) (x v y : Value) (w : World) (hn : bs.length ≤ 3) (ht : TyO 24 w bs t [x, v, y]) :
    Calls Try.prog 7 #[.agg #[x, v, y], .int .i64 1] w fun e w' => e = .returned (.int .i64 ((1 + 2 * bs.length : Nat) : Int)) ∧ MkO 24 markB w' bs 1 v ∧ Turns bs w w' :=
  markType_any bs t x v y 1 w (by omega) ht (by omega) (by omega)
theorem held_one (bs : List Nat) (x v y : Value) (w : World) (hn : bs.length ≤ 3) (ht : MkO 24 markB w bs 1 v) :
    Calls Try.prog 8 #[.agg #[x, v, y], .int .i64 1] w fun e w' => e = .returned (.int .i64 ((1 + 2 * bs.length : Nat) : Int)) ∧ Below w.heap.size w w' :=
  heldType_any bs x v y 1 w (by omega) ht (by omega) (by omega)

set_option maxHeartbeats 4000000 in
theorem law_walk (s : ByteArray) (w : World) (hs : s.size ≤ 140737488351232) :
    Calls Try.prog 3 #[.string s] w fun e w' => e = .returned (.bool true) ∧ Below w.heap.size w w' := by
  by_cases hbig : 1048576 < s.size
  · have hbi : (1048576 : Int) < (s.size : Int) := by omega
    go_enter Try.func3, Try.ntmps3
    go_wp2_with fail
    go_ret
    exact ⟨rfl, Below.refl _ _⟩
  have hbi : decide ((1048576 : Int) < (s.size : Int)) = false := decide_eq_false (by omega)
  have HE : Hid (specT s.data.toList = readL 3 s.data.toList) := specT_eq _
  go_enter Try.func3, Try.ntmps3
  go_wp2_with fail
  refine (specTypeGet_any s _ hs).mono ?_
  intro e w1 hp
  rw [HE.out] at hp
  obtain ⟨a1, c1, rfl, hR1, hb1⟩ := uniK hp
  generalize ho : readL 3 s.data.toList = o at *
  have Ho : Hid (readL 3 s.data.toList = o) := ho
  clear ho hp HE
  have HR1 : Hid (∀ W, Below w1.heap.size w1 W → TyR W 0 3 (tyOf o) [.string (tyOf o).name, .slice a1 (tyOf o).of.length c1, .bool (tyOf o).must]) := fun W h => TyR.keeps (Keeps.of_below h (Nat.le_refl _) _) 3 _ _ (TyR.base (Nat.zero_le _) 3 _ _ hR1)
  clear hR1
  generalize ht : tyOf o = t at *
  generalize hk : o.isSome = ok at *
  have Ht : Hid (tyOf o = t) := ht
  have Hk : Hid (o.isSome = ok) := hk
  clear ht hk
  have HUni : Hid (∀ (W W' : World) (e : Ending), TyPostO 3 (readL 3 s.data.toList) W e W' → ∃ a c bs, e = .returned (.tuple #[.agg #[.string t.name, .slice a t.of.length c, .bool t.must], .bool ok]) ∧ TyR W' W.heap.size 3 t [.string t.name, .slice a t.of.length c, .bool t.must] ∧
      bs.length ≤ 3 ∧ (∀ b ∈ bs, W.heap.size ≤ b) ∧ TyO 24 W' bs t [.string t.name, .slice a t.of.length c, .bool t.must] ∧ Below W.heap.size W W') := by
    intro W W' e h
    rw [Ho.out] at h
    have := uniO h
    rw [Ht.out, Hk.out] at this
    exact this
  clear Ho Ht Hk
  go_wp2_with fail
  refine (implTypeGet_any s _ hs).mono ?_
  intro e w2 hp
  obtain ⟨a2, c2, bs, rfl, hR2, hbl, hbs, hO2, hb2⟩ := HUni.out _ _ _ hp
  have HB12 : Hid (Below w1.heap.size w1 w2) := ((Below.refl _ _).alloc (Nat.le_refl _) _).trans (hb2.mono (by simp))
  have hbs' : ∀ b ∈ bs, w1.heap.size + 1 ≤ b := fun b hb => by have := hbs b hb; simpa using this
  have x0 := cell_on hb2 (p := ⟨w1.heap.size, 0, none⟩) (by simp; rfl)
  have x1 := cell_on hb2 (p := ⟨w1.heap.size, 1, none⟩) (by simp; rfl)
  have x2 := cell_on hb2 (p := ⟨w1.heap.size, 2, none⟩) (by simp; rfl)
  have HR2 : Hid (∀ W, Keeps 0 w2 W → TyR W 0 3 t [.string t.name, .slice a2 t.of.length c2, .bool t.must]) := fun W h => TyR.keeps h 3 _ _ (TyR.base (Nat.zero_le _) 3 _ _ hR2)
  have hlt2 := TyO.lt bs t _ hO2
  have HO2 : Hid (∀ W, Below w2.heap.size w2 W → TyO 24 W bs t [.string t.name, .slice a2 t.of.length c2, .bool t.must]) := fun W h => TyO.same bs t _ (fun b hb => h.block b (hlt2 b hb)) hO2
  have Hbs : Hid (∀ b ∈ bs, w1.heap.size + 1 ≤ b ∧ b < w2.heap.size) := fun b hb => ⟨hbs' b hb, hlt2 b hb⟩
  have hz12 : w1.heap.size < w2.heap.size := cell_lt x0
  clear hp hR2 hO2 hb2 hbs hbs' hlt2
  go_wp2_with fail
  refine ((eq_all 3).1 t _ _ _ (HR2.out _ ((Keeps.refl _ _).alloc _)) (HR1.out _ (HB12.out.alloc HB12.out.size _))).mono ?_
  rintro e w3 ⟨rfl, hb3⟩
  have HB23 : Hid (Below w2.heap.size w2 w3) := ((Below.refl _ _).alloc (Nat.le_refl _) _).trans (hb3.mono (by simp))
  replace x0 := cell_on HB23.out x0
  replace x1 := cell_on HB23.out x1
  replace x2 := cell_on HB23.out x2
  have y0 := cell_on hb3 (p := ⟨w2.heap.size, 0, none⟩) (by simp; rfl)
  have y1 := cell_on hb3 (p := ⟨w2.heap.size, 1, none⟩) (by simp; rfl)
  have y2 := cell_on hb3 (p := ⟨w2.heap.size, 2, none⟩) (by simp; rfl)
  clear hb3 HR2
  go_wp2_with fail
  refine (mark_one bs t _ _ _ _ hbl (HO2.out _ HB23.out)).mono ?_
  rintro e w4 ⟨rfl, hM, hTu⟩
  have n1 : w1.heap.size ∉ bs := fun h => by have := (Hbs.out _ h).1; omega
  have n2 : w2.heap.size ∉ bs := fun h => by have := (Hbs.out _ h).2; omega
  replace x0 := cell_turn hTu n1 x0
  replace x1 := cell_turn hTu n1 x1
  replace x2 := cell_turn hTu n1 x2
  replace y0 := cell_turn hTu n2 y0
  replace y1 := cell_turn hTu n2 y1
  replace y2 := cell_turn hTu n2 y2
  have HB14 : Hid (Below w1.heap.size w1 w4) := hTu.below (HB12.out.trans (HB23.out.mono HB12.out.size)) (fun b hb => by have := (Hbs.out b hb).1; omega) (Nat.le_trans HB12.out.size HB23.out.size)
  have HM : Hid (∀ W, Below w4.heap.size w4 W → MkO 24 markB W bs 1 (.slice a2 t.of.length c2)) := fun W h => MkO.on h hM
  clear hM hTu n1 n2 HO2 HB23 HB12 Hbs hz12
  generalize hr : ((1 + 2 * bs.length : Nat) : Int) = r at *
  have hr0 : (0 : Int) ≤ r := by rw [← hr]; omega
  have Hr : Hid (((1 + 2 * bs.length : Nat) : Int) = r) := hr
  clear hr
  go_wp2_with fail
  refine (held_one bs _ _ _ _ hbl (HM.out _ (Below.refl _ _))).mono ?_
  rintro e w5 ⟨rfl, hb5⟩
  rw [Hr.out]
  replace x0 := cell_on hb5 x0
  replace x1 := cell_on hb5 x1
  replace x2 := cell_on hb5 x2
  replace y0 := cell_on hb5 y0
  replace y1 := cell_on hb5 y1
  replace y2 := cell_on hb5 y2
  have HB45 : Hid (Below w4.heap.size w4 w5) := hb5
  clear hb5
  go_wp2_with fail
  refine (implTypeGet_any s _ hs).mono ?_
  intro e w6 hp
  obtain ⟨a6, c6, bs6, rfl, hR6, _, _, _, hb6⟩ := HUni.out _ _ _ hp
  replace x0 := cell_on hb6 x0
  replace x1 := cell_on hb6 x1
  replace x2 := cell_on hb6 x2
  replace y0 := cell_on hb6 y0
  replace y1 := cell_on hb6 y1
  replace y2 := cell_on hb6 y2
  have HB46 : Hid (Below w4.heap.size w4 w6) := HB45.out.trans (hb6.mono HB45.out.size)
  have HR6 : Hid (∀ W, Keeps 0 w6 W → TyR W 0 3 t [.string t.name, .slice a6 t.of.length c6, .bool t.must]) := fun W h => TyR.keeps h 3 _ _ (TyR.base (Nat.zero_le _) 3 _ _ hR6)
  have HB16 : Hid (Below w1.heap.size w1 w6) := HB14.out.trans (HB46.out.mono HB14.out.size)
  have hz16 : w1.heap.size < w6.heap.size := cell_lt x0
  have hz26 : w2.heap.size < w6.heap.size := cell_lt y0
  clear hp hR6 hb6 HB45
  go_wp2_with fail
  refine ((eq_all 3).1 t _ _ _ (HR6.out _ ((Keeps.refl _ _).alloc _)) (HR1.out _ (HB16.out.alloc HB16.out.size _))).mono ?_
  rintro e w7 ⟨rfl, hb7⟩
  have HB67 : Hid (Below w6.heap.size w6 w7) := ((Below.refl _ _).alloc (Nat.le_refl _) _).trans (hb7.mono (by simp))
  replace y0 := cell_on HB67.out y0
  replace y1 := cell_on HB67.out y1
  replace y2 := cell_on HB67.out y2
  clear hb7 HR6 HR1 HUni x0 x1 x2
  go_wp2_with fail
  refine (held_one bs _ _ _ _ hbl (HM.out _ (HB46.out.trans (HB67.out.mono HB46.out.size)))).mono ?_
  rintro e w8 ⟨rfl, hb8⟩
  rw [Hr.out]
  have HB18 : Hid (Below w1.heap.size w1 w8) := (HB16.out.trans (HB67.out.mono HB16.out.size)).trans (hb8.mono (Nat.le_trans HB16.out.size HB67.out.size))
  clear hb8 HM
  go_wp2_with fail
  go_ret
  exact ⟨rfl, hb1.trans (HB18.out.mono hb1.size)⟩

end Go.Proofs.Ytpahkngdbpnomaa
