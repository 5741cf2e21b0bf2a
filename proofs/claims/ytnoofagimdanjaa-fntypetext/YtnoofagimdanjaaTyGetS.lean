/-
  DERIVED. THE WALKS OF spec.l2Get at a list, spec.TypeGet.
-/
import Derived.Test.YtnoofagimdanjaaTyGetW
namespace Go.Proofs.Ytnoofagimdanjaa
open Go.RowKit
set_option linter.unusedVariables false
set_option linter.unusedSimpArgs false

/-- A row of one type, in a block that was just laid. -/
theorem row_one {k base lo b : Nat} {w1 wX : World} {t : Ty} {v : Value} {e : TypeId} (hlo : base ≤ lo) (hk : Keeps lo w1 wX) (hb : b = wX.heap.size) (hle : base ≤ b) (ht : TyR w1 lo k t [.string t.name, v, .bool t.must]) :
    Row (wX.alloc (.cells #[.string t.name, v, .bool t.must] e)) base 3 48 (TyR (wX.alloc (.cells #[.string t.name, v, .bool t.must] e)) base k) [t] (.slice (some ⟨b, 0, none⟩) 1 1) := by
  subst hb
  refine Or.inr ⟨⟨wX.heap.size, 0, none⟩, 1, rfl, by simp, by unfold maxLen; omega, by simp, fun i hi => ⟨hle, rfl, [.string t.name, v, .bool t.must], rfl, ?_, ?_⟩⟩
  · have hi0 : i = 0 := by simp at hi; exact hi
    subst hi0
    intro j hj
    have := (Owns.made wX #[.string t.name, v, .bool t.must] e).cell j
    simp only [Nat.zero_mul, Nat.zero_add, Nat.add_zero]
    rw [this]
    simp
  · have hi0 : i = 0 := by simp at hi; exact hi
    subst hi0
    exact TyR.base hlo k _ _ (TyR.keeps (hk.alloc _) k _ _ ht)

theorem get_post_list (d : Nat) (s : ByteArray) (w w1 wX : World) (t : Ty) (v : Value) (r : ByteArray) (m : Bool) (b : Nat) (e : TypeId)
    (hg : getL (d + 1) s.data.toList = some (⟨ByteArray.empty, [t], m⟩, r.data.toList)) (hk : Keeps (w.heap.size + 2) w1 wX) (hb : b = wX.heap.size) (hB : Below w.heap.size w wX) (ht : TyR w1 (w.heap.size + 2) d t [.string t.name, v, .bool t.must]) :
    GetPost (d + 1) s w (.returned (.tuple #[.agg #[.string ByteArray.empty, .slice (some ⟨b, 0, none⟩) 1 1, .bool m], .string r, .bool true])) (wX.alloc (.cells #[.string t.name, v, .bool t.must] e)) := by
  refine ⟨?_, hB.alloc hB.size _⟩
  rw [hg]
  have hle : w.heap.size ≤ b := by rw [hb]; exact hB.size
  exact ⟨_, _, by rw [B_data]; rfl, _, rfl, by simp, row_one (by omega) hk hb hle ht⟩

set_option maxHeartbeats 2000000 in
theorem l2Get_list (d : Nat) (hd : d ≤ 5) (h1d : 1 ≤ d) (ih : GetS d) (s : ByteArray) (w : World) (hs : s.size ≤ 140737488351232) (hc : s.data.toList.head? = some 91) :
    Calls Try.prog 21 #[.string s, .int .i64 ((d : Int) + 1)] w (GetPost (d + 1) s w) := by
  have hp : 0 < s.size := by
    have h1 := len_toList s
    rcases Nat.eq_zero_or_pos s.size with h | h
    · have : s.data.toList = [] := List.eq_nil_of_length_eq_zero (by omega)
      rw [this] at hc; simp at hc
    · exact h
  have h91 : isB s 91 = true := by simp [isB, hc]
  have hq' : ((s[0].toNat : Int) == 91) = true := (isB_pos s 91 hp).symm.trans h91
  have hpi : decide ((0 : Int) < (s.size : Int)) = true := decide_eq_true (by omega)
  have hdd : (d : Int) ≤ 5 := by omega
  have hd1 : (1 : Int) ≤ (d : Int) := by omega
  have hdec : decide ((1 : Int) < (d : Int) + 1) = true := decide_eq_true (by omega)
  have hsz : (s.extract 1 s.size).size ≤ 140737488351232 := by simp [ByteArray.size_extract]; omega
  have HT : Hid ((s.extract 1 s.size).data.toList = s.data.toList.tail) := by show _ = _; rw [Lib.extract_to_end, List.drop_one]
  clear h91
  go_enter Try.func21, Try.ntmps21
  go_wp2_with fail
  refine (ih _ _ hsz).mono ?_
  rintro e w1 ⟨hm, hb1⟩
  rw [HT.out] at hm
  obtain ⟨hc1, hf1⟩ := bcell hb1
  have hz1 : w.heap.size + 1 < w1.heap.size := by have := hb1.size; simp at this; omega
  have hz0 : w.heap.size < w1.heap.size := by omega
  have q0 : w1.cell? ⟨w.heap.size, 0, none⟩ = some (.string ⟨#[]⟩) := by rw [hc1 w.heap.size 0 (by simp; omega)]; simp
  have q1 : w1.cell? ⟨w.heap.size, 1, none⟩ = some (.slice none 0 0) := by rw [hc1 w.heap.size 1 (by simp; omega)]; simp
  have q2 : w1.cell? ⟨w.heap.size, 2, none⟩ = some (.bool false) := by rw [hc1 w.heap.size 2 (by simp; omega)]; simp
  have HB : Hid (Below w.heap.size w w1) := (((Below.refl _ _).alloc (Nat.le_refl _) _).alloc (by simp) _).trans (hb1.mono (by simp; omega))
  have Hc : Hid (s.data.toList.head? = some 91) := hc
  clear hb1 hc
  match hg : getL d s.data.toList.tail with
  | none =>
    rw [hg] at hm
    have he : e = _ := hm
    subst he
    have hgn : Hid (getL (d + 1) s.data.toList = none) := by show _ = _; unfold getL; rw [if_pos ⟨Hc.out, h1d⟩, hg]
    clear hm hg
    go_wp2_with fail
    refine bodyPost_ret (v := .tuple #[.agg #[.string ByteArray.empty, .slice none 0 0, .bool false], .string ByteArray.empty, .bool false]) (by simp [results, Try.results21, go_sem, q0, q1, q2, hz1, hz0]; rfl) rfl ⟨by rw [hgn.out], ?_⟩
    exact (((HB.out.setCell (by simp) _).setCell (by simp) _).setCell (by simp) _).alloc (by have := HB.out.size; simp; omega) _
  | some (t, r) =>
    rw [hg] at hm
    obtain ⟨a, c, he, hR⟩ := hm
    subst he
    have hrs : (B r).size ≤ 140737488351232 := by
      have h1 := len_toList (B r)
      have h2 := len_toList s
      have h3 := getL_rest d _ _ _ hg
      rw [data_B] at h1
      simp at h3
      omega
    by_cases hr : r.head? = some 93
    · have hgn : Hid (getL (d + 1) s.data.toList = some (bangL ⟨ByteArray.empty, [t], false⟩ r.tail)) := by
        show _ = _; unfold getL; rw [if_pos ⟨Hc.out, h1d⟩, hg]; simp [hr]
      have hrp : 0 < (B r).size := by
        have h1 := len_toList (B r)
        rw [data_B] at h1
        cases r with
        | nil => simp at hr
        | cons x y => simp at h1; omega
      have hrb : (((B r)[0].toNat : Int) == 93) = true := by
        have := isB_pos (B r) 93 hrp
        rw [isB, data_B, hr] at this
        exact this.symm
      have HR : Hid (TyR w1 (w.heap.size + 2) d t [.string t.name, .slice a t.of.length c, .bool t.must]) := TyR.base (by simp) d _ _ hR
      have HTr : Hid (((B r).extract 1 (B r).size).data.toList = r.tail) := by show _ = _; rw [Lib.extract_to_end, data_B, List.drop_one]
      have p0 : w1.cell? ⟨w.heap.size + 1, 0, none⟩ = some (.string ⟨#[]⟩) := by rw [hc1 (w.heap.size + 1) 0 (by simp)]; simp
      have p1 : w1.cell? ⟨w.heap.size + 1, 1, none⟩ = some (.slice none 0 0) := by rw [hc1 (w.heap.size + 1) 1 (by simp)]; simp
      have p2 : w1.cell? ⟨w.heap.size + 1, 2, none⟩ = some (.bool false) := by rw [hc1 (w.heap.size + 1) 2 (by simp)]; simp
      clear hR hg
      have hr0 : (((B r).size : Int) == 0) = false := beq_eq_false_iff_ne.2 (by omega)
      go_wp2_with fail
      · rename_i g0 g1 g2
        have hzr : (B r).size - 1 = ((B r).extract 1 (B r).size).size := by simp [ByteArray.size_extract]
        have hb := bang_yes ⟨ByteArray.empty, [t], false⟩ ((B r).extract 1 (B r).size) _ hzr (by omega) g2
        rw [HTr.out] at hb
        have hgf := hgn.out.trans (congrArg some hb)
        refine bodyPost_ret (v := .tuple #[.agg #[.string ByteArray.empty, .slice (some ⟨w1.heap.size + 1, 0, none⟩) 1 1, .bool true], .string (((B r).extract 1 (B r).size).extract 1 ((B r).size - 1)), .bool true]) (by simp [results, Try.results21, go_sem, q0, q1, q2, p0, p1, p2, hz1, hz0]; rfl) rfl ?_
        refine get_post_list d s w w1 _ t _ _ true _ _ hgf (Keeps.alloc (((((((Keeps.refl _ _).setCell (by simp; try omega) _).setCell (by simp; try omega) _).setCell (by simp; try omega) _).setCell (by simp; try omega) _).setCell (by simp; try omega) _)) _) (by simp) (Below.alloc ((((((HB.out.setCell (by simp; try omega) _).setCell (by simp; try omega) _).setCell (by simp; try omega) _).setCell (by simp; try omega) _).setCell (by simp; try omega) _)) (by have := HB.out.size; simp; omega) _) HR.out
      · rename_i g0 g1 g2
        have hzr : (B r).size - 1 = ((B r).extract 1 (B r).size).size := by simp [ByteArray.size_extract]
        have hb := bang_no ⟨ByteArray.empty, [t], false⟩ ((B r).extract 1 (B r).size) (by omega) g2
        rw [HTr.out] at hb
        have hgf := hgn.out.trans (congrArg some hb)
        refine bodyPost_ret (v := .tuple #[.agg #[.string ByteArray.empty, .slice (some ⟨w1.heap.size + 1, 0, none⟩) 1 1, .bool false], .string ((B r).extract 1 (B r).size), .bool true]) (by simp [results, Try.results21, go_sem, q0, q1, q2, p0, p1, p2, hz1, hz0]; rfl) rfl ?_
        refine get_post_list d s w w1 _ t _ _ false _ _ (hgf.trans (by rw [HTr.out])) (Keeps.alloc ((((((Keeps.refl _ _).setCell (by simp; try omega) _).setCell (by simp; try omega) _).setCell (by simp; try omega) _).setCell (by simp; try omega) _)) _) (by simp) (Below.alloc (((((HB.out.setCell (by simp; try omega) _).setCell (by simp; try omega) _).setCell (by simp; try omega) _).setCell (by simp; try omega) _)) (by have := HB.out.size; simp; omega) _) HR.out
      · rename_i g0 g1
        have hzr : (B r).size - 1 = ((B r).extract 1 (B r).size).size := by simp [ByteArray.size_extract]
        have hb := bang_end ⟨ByteArray.empty, [t], false⟩ ((B r).extract 1 (B r).size) (by omega)
        rw [HTr.out] at hb
        have hgf := hgn.out.trans (congrArg some hb)
        refine bodyPost_ret (v := .tuple #[.agg #[.string ByteArray.empty, .slice (some ⟨w1.heap.size + 1, 0, none⟩) 1 1, .bool false], .string ((B r).extract 1 (B r).size), .bool true]) (by simp [results, Try.results21, go_sem, q0, q1, q2, p0, p1, p2, hz1, hz0]; rfl) rfl ?_
        refine get_post_list d s w w1 _ t _ _ false _ _ (hgf.trans (by rw [HTr.out])) (Keeps.alloc ((((((Keeps.refl _ _).setCell (by simp; try omega) _).setCell (by simp; try omega) _).setCell (by simp; try omega) _).setCell (by simp; try omega) _)) _) (by simp) (Below.alloc (((((HB.out.setCell (by simp; try omega) _).setCell (by simp; try omega) _).setCell (by simp; try omega) _).setCell (by simp; try omega) _)) (by have := HB.out.size; simp; omega) _) HR.out
    · have hgn : Hid (getL (d + 1) s.data.toList = none) := by
        show _ = _; unfold getL; rw [if_pos ⟨Hc.out, h1d⟩, hg]; simp [hr]
      clear hR hg
      by_cases hrp : 0 < (B r).size
      · have hrb : (((B r)[0].toNat : Int) != 93) = true := by
          have := isB_pos (B r) 93 hrp
          rw [isB, data_B] at this
          have h1 : (((B r)[0].toNat : Int) == 93) = false := by
            rw [show ((93 : UInt8).toNat : Int) = 93 from rfl] at this
            rw [← this]; simp [hr]
          simp only [bne, h1, Bool.not_false]
        have hr0 : (((B r).size : Int) == 0) = false := beq_eq_false_iff_ne.2 (by omega)
        go_wp2_with fail
        refine bodyPost_ret (v := .tuple #[.agg #[.string ByteArray.empty, .slice none 0 0, .bool false], .string ByteArray.empty, .bool false]) (by simp [results, Try.results21, go_sem, q0, q1, q2, hz1, hz0]; rfl) rfl ⟨by rw [hgn.out], ?_⟩
        exact (((HB.out.setCell (by simp) _).setCell (by simp) _).setCell (by simp) _).alloc (by have := HB.out.size; simp; omega) _
      · have hr0 : (((B r).size : Int) == 0) = true := beq_iff_eq.2 (by omega)
        go_wp2_with fail
        refine bodyPost_ret (v := .tuple #[.agg #[.string ByteArray.empty, .slice none 0 0, .bool false], .string ByteArray.empty, .bool false]) (by simp [results, Try.results21, go_sem, q0, q1, q2, hz1, hz0]; rfl) rfl ⟨by rw [hgn.out], ?_⟩
        exact (((HB.out.setCell (by simp) _).setCell (by simp) _).setCell (by simp) _).alloc (by have := HB.out.size; simp; omega) _

theorem getS_all : ∀ d : Nat, 1 ≤ d → d ≤ 5 → GetS d
  | 0, h, _ => absurd h (by omega)
  | d + 1, _, h => fun s w hs => by
    rw [show ((d + 1 : Nat) : Int) = (d : Int) + 1 by omega]
    by_cases hc : s.data.toList.head? = some 91 ∧ 1 ≤ d
    · exact l2Get_list d (by omega) hc.2 (getS_all d hc.2 (by omega)) s w hs hc.1
    · exact l2Get_word d (by omega) s w hs hc

/-- What a reading of a type answers. -/
def TyPostK (k : Nat) (o : Option Ty) (w : World) (e : Ending) (w' : World) : Prop :=
  (match o with
  | some t => ∃ a c, e = .returned (.tuple #[.agg #[.string t.name, .slice a t.of.length c, .bool t.must], .bool true]) ∧ TyR w' w.heap.size k t [.string t.name, .slice a t.of.length c, .bool t.must]
  | none => e = .returned (.tuple #[.agg #[.string ByteArray.empty, .slice none 0 0, .bool false], .bool false])) ∧ Below w.heap.size w w'

set_option maxHeartbeats 2000000 in
theorem specTypeGet_any (s : ByteArray) (w : World) (hs : s.size ≤ 140737488351232) :
    Calls Try.prog 10 #[.string s] w (TyPostK 3 (specT s.data.toList) w) := by
  go_enter Try.func10, Try.ntmps10
  go_wp2_with fail
  refine (getS_all 3 (by omega) (by omega) s _ hs).mono ?_
  rintro e w1 ⟨hm, hb1⟩
  obtain ⟨hc1, hf1⟩ := bcell hb1
  have q0 : w1.cell? ⟨w.heap.size, 0, none⟩ = some (.string ⟨#[]⟩) := by rw [hc1 w.heap.size 0 (by simp)]; simp
  have q1 : w1.cell? ⟨w.heap.size, 1, none⟩ = some (.slice none 0 0) := by rw [hc1 w.heap.size 1 (by simp)]; simp
  have q2 : w1.cell? ⟨w.heap.size, 2, none⟩ = some (.bool false) := by rw [hc1 w.heap.size 2 (by simp)]; simp
  have hz0 : w.heap.size < w1.heap.size := by have := hb1.size; simp at this; omega
  have f1 : ∀ o, w1.frozen? ⟨w.heap.size, o, none⟩ = false := fun o => by rw [hf1 w.heap.size o (by simp)]; exact (Owns.made w _ _).frozen o
  have HB : Hid (Below w.heap.size w w1) := ((Below.refl _ _).alloc (Nat.le_refl _) _).trans (hb1.mono (by simp))
  clear hb1
  match hg : getL 3 s.data.toList with
  | none =>
    rw [hg] at hm
    have he : e = _ := hm
    subst he
    have hgn : Hid (specT s.data.toList = none) := by show _ = _; unfold specT; rw [hg]
    clear hm hg
    go_wp2_with fail
    refine bodyPost_ret (v := .tuple #[.agg #[.string ByteArray.empty, .slice none 0 0, .bool false], .bool false]) (by simp [results, Try.results10, go_sem, q0, q1, q2, hz0]; rfl) rfl ⟨by rw [hgn.out], ?_⟩
    exact (((HB.out.setCell (by simp) _).setCell (by simp) _).setCell (by simp) _).alloc (by have := HB.out.size; simp; omega) _
  | some (t, r) =>
    rw [hg] at hm
    obtain ⟨a, c, he, hR⟩ := hm
    subst he
    cases r with
    | cons x y =>
      have hgn : Hid (specT s.data.toList = none) := by show _ = _; unfold specT; rw [hg]
      have hne : (B (x :: y)).toList.isEmpty = false := by rw [ByteArray.toList_eq, data_B]; rfl
      clear hg hR
      go_wp2_with fail
      refine bodyPost_ret (v := .tuple #[.agg #[.string ByteArray.empty, .slice none 0 0, .bool false], .bool false]) (by simp [results, Try.results10, go_sem, q0, q1, q2, hz0]; rfl) rfl ⟨by rw [hgn.out], ?_⟩
      exact (((HB.out.setCell (by simp) _).setCell (by simp) _).setCell (by simp) _).alloc (by have := HB.out.size; simp; omega) _
    | nil =>
      have hne : (B []).toList.isEmpty = true := by rw [ByteArray.toList_eq, data_B]; rfl
      have HR : Hid (∀ W, Keeps (w.heap.size + 1) w1 W → TyR W (w.heap.size + 1) 3 t [.string t.name, .slice a t.of.length c, .bool t.must]) := fun W h => TyR.keeps h 3 _ _ (TyR.base (by simp) 3 _ _ hR)
      clear hR
      cases hf : formedB 3 t
      · have hgn : Hid (specT s.data.toList = none) := by show _ = _; unfold specT; rw [hg]; simp [hf]
        clear hg
        go_wp2_with fail
        refine (l2Type_any 2 3 t _ _ (by omega) (TyR.base (Nat.zero_le _) 3 _ _ (HR.out _ ((Keeps.refl _ _).alloc _)))).mono ?_
        rintro e w2 ⟨rfl, hb2⟩
        rw [show 2 + 1 = 3 from rfl, hf]
        have p0 : w2.cell? ⟨w.heap.size, 0, none⟩ = some (.string ⟨#[]⟩) := cell_on hb2 ((World.cell?_alloc_lt _ _ _ (cell_lt q0)).trans q0)
        have p1 : w2.cell? ⟨w.heap.size, 1, none⟩ = some (.slice none 0 0) := cell_on hb2 ((World.cell?_alloc_lt _ _ _ (cell_lt q1)).trans q1)
        have p2 : w2.cell? ⟨w.heap.size, 2, none⟩ = some (.bool false) := cell_on hb2 ((World.cell?_alloc_lt _ _ _ (cell_lt q2)).trans q2)
        have f2 : ∀ o, w2.frozen? ⟨w.heap.size, o, none⟩ = false := fun o =>
          (hb2.frozen (p := ⟨w.heap.size, o, none⟩) (by simp; omega)).trans ((((Below.refl w1.heap.size w1).alloc (Nat.le_refl _) _).frozen (p := ⟨w.heap.size, o, none⟩) hz0).trans (f1 o))
        have HB2 : Hid (Below w.heap.size w w2) := (HB.out.alloc HB.out.size _).trans (hb2.mono (by have := HB.out.size; simp; omega))
        have hz2 : w.heap.size < w2.heap.size := cell_lt p0
        clear hb2 q0 q1 q2 hc1 hf1 HR hz0
        go_wp2_with fail
        refine bodyPost_ret (v := .tuple #[.agg #[.string ByteArray.empty, .slice none 0 0, .bool false], .bool false]) (by simp [results, Try.results10, go_sem, p0, p1, p2, hz2]; rfl) rfl ⟨by rw [hgn.out], ?_⟩
        exact ((HB2.out.setCell (by simp) _).setCell (by simp) _).setCell (by simp) _
      · have hgn : Hid (specT s.data.toList = some t) := by show _ = _; unfold specT; rw [hg]; simp [hf]
        clear hg
        go_wp2_with fail
        refine (l2Type_any 2 3 t _ _ (by omega) (TyR.base (Nat.zero_le _) 3 _ _ (HR.out _ ((Keeps.refl _ _).alloc _)))).mono ?_
        rintro e w2 ⟨rfl, hb2⟩
        rw [show 2 + 1 = 3 from rfl, hf]
        have p0 : w2.cell? ⟨w.heap.size, 0, none⟩ = some (.string ⟨#[]⟩) := cell_on hb2 ((World.cell?_alloc_lt _ _ _ (cell_lt q0)).trans q0)
        have p1 : w2.cell? ⟨w.heap.size, 1, none⟩ = some (.slice none 0 0) := cell_on hb2 ((World.cell?_alloc_lt _ _ _ (cell_lt q1)).trans q1)
        have p2 : w2.cell? ⟨w.heap.size, 2, none⟩ = some (.bool false) := cell_on hb2 ((World.cell?_alloc_lt _ _ _ (cell_lt q2)).trans q2)
        have f2 : ∀ o, w2.frozen? ⟨w.heap.size, o, none⟩ = false := fun o =>
          (hb2.frozen (p := ⟨w.heap.size, o, none⟩) (by simp; omega)).trans ((((Below.refl w1.heap.size w1).alloc (Nat.le_refl _) _).frozen (p := ⟨w.heap.size, o, none⟩) hz0).trans (f1 o))
        have r0 : w2.cell? ⟨w1.heap.size, 0, none⟩ = some (.string t.name) := cell_on hb2 (by simp)
        have r1 : w2.cell? ⟨w1.heap.size, 1, none⟩ = some (.slice a t.of.length c) := cell_on hb2 (by simp)
        have r2 : w2.cell? ⟨w1.heap.size, 2, none⟩ = some (.bool t.must) := cell_on hb2 (by simp)
        have HB2 : Hid (Below w.heap.size w w2) := (HB.out.alloc HB.out.size _).trans (hb2.mono (by have := HB.out.size; simp; omega))
        have HR2 : Hid (∀ W, Keeps (w.heap.size + 1) w2 W → TyR W (w.heap.size + 1) 3 t [.string t.name, .slice a t.of.length c, .bool t.must]) := fun W h => HR.out W ((((Keeps.refl _ _).alloc _).trans (Keeps.of_below hb2 (Nat.le_refl _) _)).trans h)
        have hz2 : w.heap.size < w2.heap.size := cell_lt p0
        have hne2 : (w.heap.size == w1.heap.size) = false := by simp; omega
        clear hb2 q0 q1 q2 hc1 hf1 HR
        go_wp2_with fail
        refine bodyPost_ret (v := .tuple #[.agg #[.string t.name, .slice a t.of.length c, .bool t.must], .bool true]) (by simp [results, Try.results10, go_sem, p0, p1, p2, hz2]) rfl ⟨?_, ((HB2.out.setCell (by simp) _).setCell (by simp) _).setCell (by simp) _⟩
        rw [hgn.out]
        exact ⟨a, c, rfl, TyR.base (by omega) 3 _ _ (HR2.out _ ((((Keeps.refl _ _).setCell (by simp) _).setCell (by simp) _).setCell (by simp) _))⟩

end Go.Proofs.Ytnoofagimdanjaa
