/-
  DERIVED. THE WALKS OF spec.l13Type, spec.DrawTypePut.
-/
import Derived.Test.YtnoofagimdanjaaDrawOf
import Derived.Test.YtnoofagimdanjaaPlainT
namespace Go.Proofs.Ytnoofagimdanjaa
open Go.RowKit
set_option linter.unusedVariables false
set_option linter.unusedSimpArgs false

/-- The code of a reader lies below B. -/
def LowA (a : Option Addr) (n B : Nat) : Prop := ∀ b off, a = some ⟨b, off, none⟩ → 0 < n → b < B

theorem RdAt.low {w : World} {rb : Nat} {a : Option Addr} {n c p : Nat} (h : RdAt w rb a n c p) : LowA a n w.heap.size := by
  intro b off ha hn
  obtain ⟨b', off', z, h1, _, _, h4⟩ := h.byte 0 hn
  rw [ha] at h1
  simp only [Option.some.injEq, Addr.mk.injEq, and_true] at h1
  obtain ⟨rfl, rfl⟩ := h1
  exact cell_lt h4

theorem RdAt.below {w w' : World} {rb : Nat} {a : Option Addr} {n c p B : Nat} (h : RdAt w rb a n c p) (hB : rb < B) (hA : LowA a n B) (hb : Below B w w') : RdAt w' rb a n c p := by
  refine ⟨h.own.below hb hB, h.len, fun i hi => ?_⟩
  obtain ⟨b, off, z, h1, h2, h3, h4⟩ := h.byte i hi
  refine ⟨b, off, z, h1, h2, h3, ?_⟩
  rw [World.cell?_of_block (w := w) (hb.block b (hA b off h1 (by omega)))]
  exact h4

theorem Turns.setNew {bs : List Nat} {a w : World} (h : Turns bs a w) {b o : Nat} (hb : a.heap.size ≤ b) (u : Value) : Turns bs a (w.setCell ⟨b, o, none⟩ u) :=
  ⟨h.os, h.tape, h.output, by simp [World.setCell]; exact h.size, fun k h1 h2 => (Below.heap_setCell _ _ _ _ (by show k ≠ b; omega)).trans (h.block k h1 h2)⟩
theorem Turns.alloc {bs : List Nat} {a w : World} (h : Turns bs a w) (o : Obj) : Turns bs a (w.alloc o) :=
  h.trans (Turns.of_below ((Below.refl w.heap.size w).alloc (Nat.le_refl _) o) (Nat.le_refl _))
theorem Turns.drew {bs : List Nat} {a w : World} (h : Turns bs a w) : Turns bs a w.drew := ⟨h.os, h.tape, h.output, h.size, h.block⟩
/-- Behind a call that turns one block, which lies below the base. -/
theorem Turns.keeps {rb base : Nat} {w w' : World} (h : Turns [rb] w w') (hb : rb < base) : Keeps base w w' :=
  ⟨h.size, fun k h1 h2 => h.block k h2 (by simp; omega)⟩
theorem Owns.turns {rb : Nat} {w w' : World} (h : Turns [rb] w w') {b : Nat} {c : Array Value} {e : TypeId} (hb : b ≠ rb) (ho : Owns w b c e) : Owns w' b c e :=
  ho.same (h.block b ho.lt (by simpa using hb))

/-- What holds ahead of each round: a type of m lists fewer than it is to have, in block tb. -/
structure RndTy (rb : Nat) (a : Option Addr) (n c p : Nat) (w : World) (tb m : Nat) (wr : World) : Prop where
  ex : ∃ (d : Nat) (t : Ty) (x : Option Addr) (k : Nat), d + m ≤ 3 ∧ Owns wr tb #[.string t.name, .slice x t.of.length k, .bool t.must] 25 ∧ TyR wr (tb + 1) d t [.string t.name, .slice x t.of.length k, .bool t.must] ∧ formedB d t = true ∧ k = t.of.length
  rd : ∃ p', RdAt wr rb a n c p' ∧ p' + m ≤ p + 10
  res : Owns wr w.heap.size #[.string ByteArray.empty, .slice none 0 0, .bool false] 25
  turns : Turns [rb] w wr

theorem name_short {s : ByteArray} (h : nameB s.data.toList = true) : s.size ≤ 140737488351232 := by
  simp only [nameB, Bool.and_eq_true, decide_eq_true_eq, Array.length_toList] at h
  have : s.size = s.data.size := rfl
  omega

/-- A list of one type, in a block of its own. -/
theorem TyR.list {W : World} {base nb d k : Nat} {t : Ty} {x : Option Addr} {e : TypeId} (mu : Bool) (hO : Owns W nb #[.string t.name, .slice x t.of.length k, .bool t.must] e) (hb : base ≤ nb)
    (hT : TyR W base d t [.string t.name, .slice x t.of.length k, .bool t.must]) : TyR W base (d + 1) ⟨ByteArray.empty, [t], mu⟩ [.string ByteArray.empty, .slice (some ⟨nb, 0, none⟩) 1 1, .bool mu] := by
  refine ⟨_, rfl, by simp, Or.inr ⟨⟨nb, 0, none⟩, 1, rfl, Nat.le_refl _, by decide, by simp, fun i hi => ⟨hb, rfl, [.string t.name, .slice x t.of.length k, .bool t.must], rfl, fun q hq => ?_, ?_⟩⟩⟩
  · simp at hi
    subst hi
    show W.cell? ⟨nb, 0 + 0 * 3 + q, none⟩ = _
    rw [hO.cell]
    simp
  · simp at hi
    subst hi
    exact hT

theorem RndTy.step {rb : Nat} {a : Option Addr} {n c p : Nat} {w : World} {tb m : Nat} {W : World} {d p' nb k : Nat} {t : Ty} {x : Option Addr} (mu : Bool) (hrb : rb < w.heap.size) (hlow : LowA a n w.heap.size) (htb : w.heap.size < tb) (hnb : tb < nb) (hd : d + 1 + m ≤ 3)
    (h1 : Owns W tb #[.string t.name, .slice x t.of.length k, .bool t.must] 25) (h2 : Owns W nb #[.string t.name, .slice x t.of.length k, .bool t.must] 25)
    (h3 : TyR W (tb + 1) d t [.string t.name, .slice x t.of.length k, .bool t.must]) (h4 : formedB d t = true) (h5 : RdAt W rb a n c p') (h6 : p' + m ≤ p + 10) (h7 : Owns W w.heap.size #[.string ByteArray.empty, .slice none 0 0, .bool false] 25) (h8 : Turns [rb] w W) :
    RndTy rb a n c p w tb m (W.setCells tb 0 [.string ByteArray.empty, .slice (some ⟨nb, 0, none⟩) 1 1, .bool mu]) := by
  have hk : Keeps (tb + 1) W (W.setCells tb 0 [.string ByteArray.empty, .slice (some ⟨nb, 0, none⟩) 1 1, .bool mu]) := Keeps.setCells (Nat.lt_succ_self _) _ _ (Keeps.refl _ _)
  have hb : Below tb W (W.setCells tb 0 [.string ByteArray.empty, .slice (some ⟨nb, 0, none⟩) 1 1, .bool mu]) := Below.setCells (Nat.le_refl _) _ _ (Below.refl _ _)
  refine ⟨⟨d + 1, ⟨ByteArray.empty, [t], mu⟩, some ⟨nb, 0, none⟩, 1, hd, h1.setCells _ _, TyR.keeps hk _ _ _ (TyR.list mu h2 (by omega) h3), ?_, rfl⟩, ⟨p', h5.below (B := tb) (by omega) (fun b off e1 e2 => by have := hlow b off e1 e2; omega) hb, h6⟩, h7.below hb htb, ?_⟩
  · rw [formed_one (x := t) rfl, h4, show (ByteArray.empty.toList.isEmpty) = true from by rw [ByteArray.toList_eq]; rfl]; rfl
  · exact ((h8.setNew (by omega) _).setNew (by omega) _).setNew (by omega) _

theorem TyR.deep {w : World} {base : Nat} : ∀ (k : Nat) (t : Ty) (cs : List Value), TyR w base k t cs → TyR w base (k + 1) t cs
  | 0, _, _, h => h.elim
  | k + 1, t, cs, ⟨v, h1, h2, h3⟩ => ⟨v, h1, h2, h3.imp (TyR.deep k)⟩
theorem TyR.deeper {w : World} {base k k' : Nat} {t : Ty} {cs : List Value} (hk : k ≤ k') (h : TyR w base k t cs) : TyR w base k' t cs := by
  induction hk with
  | refl => exact h
  | step _ ih => exact TyR.deep _ _ _ ih
theorem formed_deep : ∀ (d : Nat) (t : Ty), formedB d t = true → formedB (d + 1) t = true
  | 0, _, h => by simp [formedB] at h
  | d + 1, t, h => by
    rcases ht : t.of with _ | ⟨x, _ | ⟨y, r⟩⟩
    · rw [formed_none ht] at h ⊢; exact h
    · rw [formed_one ht, Bool.and_eq_true] at h ⊢; exact ⟨h.1, formed_deep d x h.2⟩
    · simp [formedB, ht] at h
theorem formed_deeper {d d' : Nat} {t : Ty} (hd : d ≤ d') (h : formedB d t = true) : formedB d' t = true := by
  induction hd with
  | refl => exact h
  | step _ ih => exact formed_deep _ _ ih

theorem setCells_alloc (b : Nat) (o : Obj) : ∀ (cs : List Value) (i : Nat) (w : World), b < w.heap.size → (w.alloc o).setCells b i cs = (w.setCells b i cs).alloc o
  | [], _, _, _ => rfl
  | v :: r, i, w, h => by
    show ((w.alloc o).setCell ⟨b, i, none⟩ v).setCells b (i + 1) r = ((w.setCell ⟨b, i, none⟩ v).setCells b (i + 1) r).alloc o
    rw [World.setCell_alloc_past _ _ _ _ h, setCells_alloc b o r (i + 1) _ (by simp [World.setCell]; exact h)]

/-- A type that was drawn of names: it has a form. -/
def DrawnTy (rb : Nat) (a : Option Addr) (n c p : Nat) (w : World) (e : Ending) (w' : World) : Prop :=
  ∃ (t : Ty) (x : Option Addr) (m p' : Nat), e = .returned (.agg #[.string t.name, .slice x t.of.length m, .bool t.must]) ∧ TyR w' w.heap.size 3 t [.string t.name, .slice x t.of.length m, .bool t.must] ∧ formedB 3 t = true ∧
    RdAt w' rb a n c p' ∧ p' ≤ p + 10 ∧ Turns [rb] w w' ∧ m = t.of.length

set_option maxHeartbeats 2000000 in
theorem l13Type_any (l : List ByteArray) (lb cap rb : Nat) (a : Option Addr) (n c p : Nat) (w : World) (hl1 : 1 ≤ l.length) (hl2 : l.length ≤ 1000) (hp : p ≤ 999000) (hR : RdAt w rb a n c p) (hne : lb ≠ rb)
    (hc : ∀ (i : Nat) (h : i < l.length), w.cell? ⟨lb, i, none⟩ = some (.string l[i])) (hnm : ∀ s ∈ l, nameB s.data.toList = true) :
    Calls Try.prog 12 #[.pointer (some ⟨rb, 0, none⟩), .slice (some ⟨lb, 0, none⟩) l.length cap] w (DrawnTy rb a n c p w) := by
  have HR : Hid (RdAt w rb a n c p) := hR
  have HC : Hid (∀ (i : Nat) (h : i < l.length), w.cell? ⟨lb, i, none⟩ = some (.string l[i])) := hc
  have hrb := hR.own.lt
  clear hR hc
  go_enter Try.func12, Try.ntmps12
  have hlow := HR.out.low
  go_wp2_with fail
  refine (of_any l lb cap rb a n c p _ hl1 hl2 (by omega) (HR.out.below hrb hlow ((Below.refl _ _).alloc (Nat.le_refl _) _)) hne (fun i h => ((World.cell?_alloc_lt _ _ _ (cell_lt (HC.out i h))).trans (HC.out i h)))).mono ?_
  rintro e w1 ⟨i, hi, rfl, hR1, hT1⟩
  have hnm1 := hnm _ (List.getElem_mem hi)
  have HR1 : Hid (RdAt w1 rb a n c (p + 1)) := hR1
  have HT1 : Hid _ := hT1
  have hs1 := hT1.size
  simp at hs1
  clear HR hR1 hT1
  go_wp2_with fail
  refine (pick_any 3 rb a n c (p + 1) _ (by omega) (by omega) (by omega) HR1.out).mono ?_
  rintro e w2 ⟨x, hx, rfl, hR2, hT2⟩
  have HR2 : Hid (RdAt w2 rb a n c (p + 2)) := hR2
  have HT2 : Hid _ := hT2
  have hs2 := hT2.size
  clear HR1 hR2 hT2
  go_wp2_with fail
  refine (one_any [0, 0, 0, 1, 1, 2] (w2.heap.size + 1) 6 rb a n c (p + 2) _ (by simp) (by simp) (by omega) (HR2.out.below (B := w2.heap.size) (by omega) (fun b off h1 h2 => by have := hlow b off h1 h2; omega) (((Below.refl _ _).alloc (Nat.le_refl _) _).alloc (by simp) _)) (by omega) ?_).mono ?_
  · intro j hj
    have q := (Owns.made (w2.alloc (.cells #[.string l[i], .slice none 0 0, .bool ((x : Int) == 0)] 25)) #[.int .i64 0, .int .i64 0, .int .i64 0, .int .i64 1, .int .i64 1, .int .i64 2] 3).cell j
    rw [show (w2.alloc (.cells #[.string l[i], .slice none 0 0, .bool ((x : Int) == 0)] 25)).heap.size = w2.heap.size + 1 by simp] at q
    rw [q]
    simp at hj
    rcases (show j = 0 ∨ j = 1 ∨ j = 2 ∨ j = 3 ∨ j = 4 ∨ j = 5 by omega) with rfl | rfl | rfl | rfl | rfl | rfl <;> rfl
  rintro e w3 ⟨j, hj, rfl, hR3, hT3⟩
  obtain ⟨m, hm, hmj⟩ : ∃ m : Nat, m ≤ 2 ∧ ([0, 0, 0, 1, 1, 2] : List Int)[j] = (m : Int) := by
    simp at hj
    rcases (show j = 0 ∨ j = 1 ∨ j = 2 ∨ j = 3 ∨ j = 4 ∨ j = 5 by omega) with rfl | rfl | rfl | rfl | rfl | rfl
    all_goals first | exact ⟨0, by omega, rfl⟩ | exact ⟨1, by omega, rfl⟩ | exact ⟨2, by omega, rfl⟩
  rw [hmj]
  have HR3 : Hid (RdAt w3 rb a n c (p + 3)) := hR3
  have HT3 : Hid _ := hT3
  have hs3 := hT3.size
  simp at hs3
  have HI : Hid (RndTy rb a n c p w w2.heap.size m w3) := by
    have o1 : Owns w1 w.heap.size #[.string ByteArray.empty, .slice none 0 0, .bool false] 25 := (Owns.made w _ _).turns HT1.out (by omega)
    have o2 := o1.turns HT2.out (by omega)
    have o3 := Owns.made w2 #[.string l[i], .slice none 0 0, .bool ((x : Int) == 0)] 25
    have b3 := ((Below.refl w2.heap.size w2).alloc (Nat.le_refl _) (.cells #[.string l[i], .slice none 0 0, .bool ((x : Int) == 0)] 25)).alloc (by simp) (.cells #[.int .i64 0, .int .i64 0, .int .i64 0, .int .i64 1, .int .i64 1, .int .i64 2] 3)
    refine ⟨⟨1, ⟨l[i], [], (x : Int) == 0⟩, none, 0, by omega, ?_, ⟨_, rfl, ?_, Or.inl ⟨rfl, rfl⟩⟩, ?_, rfl⟩, ⟨p + 3, hR3, by omega⟩, ?_, ?_⟩
    · exact (o3.below ((Below.refl _ _).alloc (Nat.le_refl _) _) (by simp)).turns hT3 (by omega)
    · exact name_short hnm1
    · rw [formed_none rfl]; exact hnm1
    · exact (o2.below b3 (by omega)).turns hT3 (by omega)
    · exact ((((Turns.refl _ _).alloc _).trans HT1.out).trans HT2.out).alloc _ |>.alloc _ |>.trans hT3
  clear HR2 hR3 hT3 HR3 HT3 HT2 HT1 HC
  have hw2 : w.heap.size < w2.heap.size := by omega
  generalize w2.heap.size = tb at *
  go_wp2_with fail
  go_loopw [6] (fun i wr => ∃ m' : Nat, m' ≤ 2 ∧ i = .int .i64 m' ∧ Hid (RndTy rb a n c p w tb m' wr)) (fun i _ => (intOf i).toNat)
  case atStart => exact ⟨m, hm, rfl, HI⟩
  case round =>
    obtain ⟨m', hm', rfl, HJ⟩ := hrel
    obtain ⟨⟨d, t, x', k, hd, hO, hT, hF, hkk⟩, ⟨p', hRd, hp'⟩, hres, htu⟩ := HJ.out
    have q0 : wr.cell? ⟨tb, 0, none⟩ = some (.string t.name) := by rw [hO.cell]; rfl
    have q1 : wr.cell? ⟨tb, 1, none⟩ = some (.slice x' t.of.length k) := by rw [hO.cell]; rfl
    have q2 : wr.cell? ⟨tb, 2, none⟩ = some (.bool t.must) := by rw [hO.cell]; rfl
    have HKK : Hid (k = t.of.length) := hkk
    clear hkk
    have HO : Hid (Owns wr tb _ _) := hO
    have HT : Hid (TyR wr (tb + 1) d t _) := hT
    have HRd : Hid (RdAt wr rb a n c p') := hRd
    have HX : Hid (Owns wr w.heap.size _ _) := hres
    have HU : Hid (Turns [rb] w wr) := htu
    clear hO hT hRd htu
    by_cases hz : m' = 0
    · subst hz
      have e0 : decide ((0 : Int) < ((0 : Nat) : Int)) = false := rfl
      have s0 : wr.cell? ⟨w.heap.size, 0, none⟩ = some (.string ByteArray.empty) := by rw [hres.cell]; rfl
      have s1 : wr.cell? ⟨w.heap.size, 1, none⟩ = some (.slice none 0 0) := by rw [hres.cell]; rfl
      have s2 : wr.cell? ⟨w.heap.size, 2, none⟩ = some (.bool false) := by rw [hres.cell]; rfl
      have z0 := fun o => hres.frozen o
      clear hres HJ HI
      go_wp2_with fail
      refine bodyPost_ret (v := .agg #[.string t.name, .slice x' t.of.length k, .bool t.must]) (by simp [results, Try.results12, go_sem, s0, s1, s2]) rfl ?_
      have hk : Keeps (tb + 1) wr (wr.setCells w.heap.size 0 [.string t.name, .slice x' t.of.length k, .bool t.must]) := Keeps.setCells (by omega) _ _ (Keeps.refl _ _)
      have hb : Below w.heap.size wr (wr.setCells w.heap.size 0 [.string t.name, .slice x' t.of.length k, .bool t.must]) := Below.setCells (Nat.le_refl _) _ _ (Below.refl _ _)
      exact ⟨t, x', k, p', rfl, TyR.base (by omega) _ _ _ (TyR.deeper (by omega) (TyR.keeps hk _ _ _ HT.out)), formed_deeper (by omega) hF, HRd.out.below hrb hlow hb, by omega, ((HU.out.setNew (by omega) _).setNew (by omega) _).setNew (by omega) _, HKK.out⟩
    · have hz' : (0 : Int) < (m' : Int) := by omega
      have z0 := fun o => HO.out.frozen o
      have hsz := HO.out.lt
      have HBA : Hid (∀ o, Below wr.heap.size wr (wr.drew.alloc o)) := fun o => (Below.refl _ _).drew.alloc (Nat.le_refl _) o
      have HLW : Hid (LowA a n wr.heap.size) := fun b off h1 h2 => by have := hlow b off h1 h2; omega
      clear hres HJ HI
      go_wp2_with fail
      go_region_with (go_at_call 13; refine (pick_any 4 rb a n c p' _ (by omega) (by omega) (by omega) (by first | exact HRd.out.below (B := wr.heap.size) (by omega) HLW.out (Below.refl _ _).drew | exact HRd.out.below (B := wr.heap.size) (by omega) HLW.out (HBA.out _))).mono ?_; rintro e w4 ⟨y, hy, rfl, hR4, hT4⟩; have HR4 : Hid _ := hR4; have HT4 : Hid _ := hT4; have HO4 : Hid (Owns w4 tb #[.string t.name, .slice x' t.of.length k, .bool t.must] 25) := (by first | exact Owns.turns (w := wr.drew) hT4 (by omega) HO.out | exact Owns.turns hT4 (by omega) (HO.out.below (HBA.out _) (by omega))); have y0 : w4.cell? ⟨tb, 0, none⟩ = some (.string t.name) := (by rw [HO4.out.cell]; rfl); have y1 : w4.cell? ⟨tb, 1, none⟩ = some (.slice x' t.of.length k) := (by rw [HO4.out.cell]; rfl); have y2 : w4.cell? ⟨tb, 2, none⟩ = some (.bool t.must) := (by rw [HO4.out.cell]; rfl); have z4 := (fun o => HO4.out.frozen o); have hs4 := HO4.out.lt; clear hR4 hT4)
      all_goals
        go_wp2_with fail
        refine ⟨⟨m' - 1, by omega, congrArg (Value.int .i64) (by omega), ?_⟩, by simp [intOf]; omega⟩
      · exact RndTy.step ((y : Int) == 0) hrb hlow hw2 hsz (by omega) HO4.out (Owns.turns HT4.out (by omega) (Owns.made wr.drew _ _))
          (TyR.keeps (((Keeps.refl _ _).drew.alloc _).trans (HT4.out.keeps (by omega))) _ _ _ HT.out) hF HR4.out (by omega) (Owns.turns HT4.out (by omega) (HX.out.below (HBA.out _) (by omega))) ((HU.out.drew.alloc _).trans HT4.out)
      all_goals
        have hst := RndTy.step (p := p) (m := m' - 1) (W := w4.alloc (.cells #[.string t.name, .slice x' t.of.length k, .bool t.must] 25)) ((y : Int) == 0) hrb hlow hw2 hs4 (by omega) (HO4.out.below ((Below.refl _ _).alloc (Nat.le_refl _) _) hs4) (Owns.made w4 _ _)
          (TyR.keeps (((Keeps.refl _ _).drew.trans (HT4.out.keeps (by omega))).alloc _) _ _ _ HT.out) hF (HR4.out.below (Nat.lt_trans hrb (by omega)) HR4.out.low ((Below.refl _ _).alloc (Nat.le_refl _) _)) (by omega)
          ((Owns.turns (w := wr.drew) HT4.out (by omega) HX.out).below ((Below.refl _ _).alloc (Nat.le_refl _) _) (by omega)) ((HU.out.drew.trans HT4.out).alloc _)
        rw [setCells_alloc _ _ _ _ _ hs4] at hst
        exact hst

end Go.Proofs.Ytnoofagimdanjaa
