/-
  DERIVED. THE WALK OF spec.DrawTypePut.
-/
import Derived.Test.YtnoofagimdanjaaDrawTy
import Derived.ArgAppend
namespace Go.Proofs.Ytnoofagimdanjaa
open Go.RowKit
set_option linter.unusedVariables false
set_option linter.unusedSimpArgs false

/-- A type that was drawn, whatever it is: of some depth, in new memory. -/
def GotTy (w : World) (e : Ending) (w' : World) : Prop :=
  ∃ (t : Ty) (x : Option Addr) (m k : Nat), e = .returned (.agg #[.string t.name, .slice x t.of.length m, .bool t.must]) ∧ TyR w' w.heap.size k t [.string t.name, .slice x t.of.length m, .bool t.must] ∧ Below w.heap.size w w'

theorem strs_at (w : World) (l : List ByteArray) (e : TypeId) (i : Nat) (h : i < l.length) : (w.alloc (.cells (l.map Value.string).toArray e)).cell? ⟨w.heap.size, i, none⟩ = some (.string l[i]) := by
  rw [(Owns.made w _ e).cell]
  simp [h]

def fourNames : List ByteArray := [⟨#[73, 110, 116]⟩, ⟨#[83, 116, 114, 105, 110, 103]⟩, ⟨#[75, 105, 110, 100]⟩, ⟨#[88, 95, 49]⟩]
theorem fourNames_named : ∀ s ∈ fourNames, nameB s.data.toList = true := by
  intro s hs
  simp only [fourNames, List.mem_cons, List.not_mem_nil, or_false] at hs
  rcases hs with rfl | rfl | rfl | rfl <;> rfl

theorem GotTy.fin {w W : World} {k m : Nat} {t : Ty} {x : Option Addr} (h1 : TyR W (w.heap.size + 1) k t [.string t.name, .slice x t.of.length m, .bool t.must]) (h3 : Below w.heap.size w W) :
    GotTy w (.returned (.agg #[.string t.name, .slice x t.of.length m, .bool t.must])) (W.setCells w.heap.size 0 [.string t.name, .slice x t.of.length m, .bool t.must]) :=
  ⟨t, x, m, k, rfl, TyR.base (Nat.le_succ _) _ _ _ (TyR.keeps (Keeps.setCells (Nat.lt_succ_self _) _ _ (Keeps.refl _ _)) _ _ _ h1), Below.setCells (Nat.le_refl _) _ _ h3⟩

/-- A row that an append left is a row. -/
theorem row_of_owns {W : World} {base : Nat} {e : TypeId} {v : Value} {xs : List Value} {R : Ty → List Value → Prop} {l : List Ty} (f : Nat → List Value) (h : W.ownsRow base e 3 v l.length xs) (hne : 0 < l.length) (hw : l.length * 48 ≤ 140737488351232)
    (hx : ∀ i, i < l.length → ∀ j, j < 3 → xs[i * 3 + j]? = (f i)[j]?) (hf : ∀ (i : Nat) (h : i < l.length), (f i).length = 3 ∧ R l[i] (f i)) : ∃ g cap, v = .slice (some ⟨g, 0, none⟩) l.length cap ∧ Row W base 3 48 R l (.slice (some ⟨g, 0, none⟩) l.length cap) := by
  rcases h.2 with ⟨_, h0⟩ | ⟨g, cap, cur, h1, h2, h3, h4, h5, h6, h7⟩
  · omega
  · refine ⟨g, cap, h1, Or.inr ⟨⟨g, 0, none⟩, cap, rfl, h4, h5, hw, fun i hi => ⟨h2, rfl, f i, (hf i hi).1, fun q hq => ?_, (hf i hi).2⟩⟩⟩
    have hq3 : q < 3 := by rw [(hf i hi).1] at hq; exact hq
    show W.cell? ⟨g, 0 + i * 3 + q, none⟩ = _
    rw [Owns.cell (w := W) (b := g) (c := cur) (e := e) h3, Nat.zero_add, ← hx i hi q hq3, ← h7, List.getElem?_take, if_pos (by omega), Array.getElem?_toList]

theorem info_Type_parts : ∃ i, Try.prog.info? 25 = some i ∧ i.zero = some (.agg #[.string ByteArray.empty, .slice none 0 0, .bool false]) ∧ i.size = 3 ∧ i.bytes = 48 := by
  have h : (Try.prog.info? 25).map (fun i => (i.zero, i.size, i.bytes)) = some (some (.agg #[.string ByteArray.empty, .slice none 0 0, .bool false]), 3, 48) := by kernel_rfl
  obtain ⟨i, h1, h2⟩ := Option.map_eq_some_iff.1 h
  simp only [Prod.mk.injEq] at h2
  exact ⟨i, h1, h2.1, h2.2.1, h2.2.2⟩

theorem Keeps.setNew {base : Nat} {a w : World} (h : Keeps base a w) {b o : Nat} (hb : a.heap.size ≤ b) (u : Value) : Keeps base a (w.setCell ⟨b, o, none⟩ u) :=
  ⟨by simp [World.setCell]; exact h.size, fun k h1 h2 => (Below.heap_setCell _ _ _ _ (by show k ≠ b; omega)).trans (h.block k h1 h2)⟩
theorem Keeps.setNews {base b : Nat} {a : World} (hb : a.heap.size ≤ b) : ∀ (cs : List Value) (o : Nat) {w : World}, Keeps base a w → Keeps base a (w.setCells b o cs)
  | [], _, _, h => h
  | v :: r, o, _, h => Keeps.setNews hb r (o + 1) (h.setNew hb v)
theorem setCells_size {b : Nat} : ∀ (cs : List Value) (o : Nat) (w : World), (w.setCells b o cs).heap.size = w.heap.size
  | [], _, _ => rfl
  | v :: r, o, w => (setCells_size r (o + 1) (w.setCell ⟨b, o, none⟩ v)).trans (by simp [World.setCell])

def fourTexts : List ByteArray := [⟨#[]⟩, ⟨#[49]⟩, ⟨#[97, 32, 98]⟩, ⟨#[73, 110, 116]⟩]
theorem fourTexts_short : ∀ s ∈ fourTexts, s.size ≤ 140737488351232 := by
  intro s hs
  simp only [fourTexts, List.mem_cons, List.not_mem_nil, or_false] at hs
  rcases hs with rfl | rfl | rfl | rfl <;> decide

/-- What lies in the list of a type that is formed. -/
theorem TyR.olds {w : World} {base m : Nat} {t : Ty} {x : Option Addr} (hF : formedB 3 t = true) (h : TyR w base 3 t [.string t.name, .slice x t.of.length m, .bool t.must]) :
    ∃ olds : List Value, olds.length = t.of.length * 3 ∧ t.of.length ≤ 1 ∧ (∀ b, x = some b → ∀ j u, olds[j]? = some u → base ≤ (b.add j).block ∧ w.cell? (b.add j) = some u) ∧ (x = none → t.of.length = 0) ∧
      ∀ (i : Nat) (h : i < t.of.length), ((olds.drop (i * 3)).take 3).length = 3 ∧ TyR w base 2 t.of[i] ((olds.drop (i * 3)).take 3) := by
  obtain ⟨v, hv, _, hrow⟩ := h
  simp only [List.cons.injEq, true_and, and_true] at hv
  subst hv
  rcases ht : t.of with _ | ⟨y, _ | ⟨z, r⟩⟩
  · exact ⟨[], rfl, by simp, by intro _ _ _ _ h; simp at h, fun _ => rfl, fun i hi => absurd hi (by simp)⟩
  · rw [ht] at hrow
    obtain ⟨a, cap, h1, _, h3⟩ := hrow.len
    obtain ⟨b, off, rfl, hb, h4⟩ := h3 (by simp)
    obtain ⟨cs, hl, hc, hR⟩ := h4 0 (by simp)
    simp only [Value.slice.injEq] at h1
    obtain ⟨rfl, _, _⟩ := h1
    refine ⟨cs, by simp [hl], by simp, ?_, fun h => by simp at h, ?_⟩
    · intro b' hb' j u hj
      simp only [Option.some.injEq] at hb'
      subst hb'
      have hjl : j < cs.length := by
        by_cases hx : j < cs.length
        · exact hx
        · rw [List.getElem?_eq_none (by omega)] at hj; simp at hj
      refine ⟨by rw [Addr.add_lit]; exact hb, ?_⟩
      have := hc j hjl
      rw [Addr.add_lit, ← hj, ← this]
      simp
    · intro i hi
      simp at hi
      subst hi
      simp only [Nat.zero_mul, List.drop_zero]
      rw [List.take_of_length_le (by omega)]
      exact ⟨hl, hR⟩
  · rw [show (3 : Nat) = 2 + 1 from rfl] at hF
    simp [formedB, ht] at hF

theorem TyR.named {w : World} {base k : Nat} {t : Ty} {v : Value} {s : ByteArray} (h : TyR w base (k + 1) t [.string t.name, v, .bool t.must]) (hs : s.size ≤ 140737488351232) : TyR w base (k + 1) ⟨s, t.of, t.must⟩ [.string s, v, .bool t.must] := by
  obtain ⟨v', hv, _, hrow⟩ := h
  simp only [List.cons.injEq, true_and, and_true] at hv
  subst hv
  exact ⟨_, rfl, hs, hrow⟩

theorem Below.setCells_new {B : Nat} {a w : World} (h : Below B a w) {b : Nat} (hb : B ≤ b) (cs : List Value) (o : Nat) : Below B a (w.setCells b o cs) := Below.setCells hb cs o h

/-- Three lists around a type. -/
theorem three_lists {w w2 w3 : World} {tb m : Nat} {t : Ty} {x : Option Addr} (htb : w2.heap.size = tb) (h1 : w.heap.size + 2 ≤ tb) (ht3 : tb < w3.heap.size) (hK : Keeps (w.heap.size + 2) w2 w3) (hB : Below w.heap.size w w3) (hT : TyR w2 (w.heap.size + 2) 3 t [.string t.name, .slice x t.of.length m, .bool t.must]) (cs : List Value) :
    TyR ((((w3.setCells tb 0 cs).alloc (.cells #[.string t.name, .slice x t.of.length m, .bool t.must] 25)).alloc (.cells #[.string ⟨#[]⟩, .slice (some ⟨w3.heap.size, 0, none⟩) 1 1, .bool false] 25)).alloc (.cells #[.string ⟨#[]⟩, .slice (some ⟨w3.heap.size + 1, 0, none⟩) 1 1, .bool false] 25))
      (w.heap.size + 2) 6 ⟨⟨#[]⟩, [⟨⟨#[]⟩, [⟨⟨#[]⟩, [t], false⟩], false⟩], false⟩ [.string ⟨#[]⟩, .slice (some ⟨w3.heap.size + 1 + 1, 0, none⟩) 1 1, .bool false] := by
  have h0 : TyR (w3.setCells tb 0 cs) (w.heap.size + 2) 3 t [.string t.name, .slice x t.of.length m, .bool t.must] := TyR.keeps (hK.setNews (by omega) _ _) _ _ _ hT
  have hz : (w3.setCells tb 0 cs).heap.size = w3.heap.size := setCells_size _ _ _
  generalize w3.setCells tb 0 cs = W at *
  have o1 : Owns (W.alloc (.cells #[.string t.name, .slice x t.of.length m, .bool t.must] 25)) w3.heap.size #[.string t.name, .slice x t.of.length m, .bool t.must] 25 := by rw [← hz]; exact Owns.made _ _ _
  have r1 := TyR.list (base := w.heap.size + 2) (d := 3) false o1 (by omega) (TyR.keeps ((Keeps.refl _ _).alloc _) _ _ _ h0)
  have z1 : (W.alloc (.cells #[.string t.name, .slice x t.of.length m, .bool t.must] 25)).heap.size = w3.heap.size + 1 := by simp [hz]
  generalize W.alloc (.cells #[.string t.name, .slice x t.of.length m, .bool t.must] 25) = W1 at *
  have o2 : Owns (W1.alloc (.cells #[.string ⟨#[]⟩, .slice (some ⟨w3.heap.size, 0, none⟩) 1 1, .bool false] 25)) (w3.heap.size + 1) #[.string ⟨#[]⟩, .slice (some ⟨w3.heap.size, 0, none⟩) 1 1, .bool false] 25 := by rw [← z1]; exact Owns.made _ _ _
  have r2 := TyR.list (t := ⟨ByteArray.empty, [t], false⟩) (x := some ⟨w3.heap.size, 0, none⟩) (k := 1) (base := w.heap.size + 2) (d := 4) false o2 (by omega) (TyR.keeps ((Keeps.refl _ _).alloc _) _ _ _ r1)
  have z2 : (W1.alloc (.cells #[.string ⟨#[]⟩, .slice (some ⟨w3.heap.size, 0, none⟩) 1 1, .bool false] 25)).heap.size = w3.heap.size + 1 + 1 := by simp [z1]
  generalize W1.alloc (.cells #[.string ⟨#[]⟩, .slice (some ⟨w3.heap.size, 0, none⟩) 1 1, .bool false] 25) = W2 at *
  have o3 : Owns (W2.alloc (.cells #[.string ⟨#[]⟩, .slice (some ⟨w3.heap.size + 1, 0, none⟩) 1 1, .bool false] 25)) (w3.heap.size + 1 + 1) #[.string ⟨#[]⟩, .slice (some ⟨w3.heap.size + 1, 0, none⟩) 1 1, .bool false] 25 := by rw [← z2]; exact Owns.made _ _ _
  exact TyR.list (t := ⟨ByteArray.empty, [⟨ByteArray.empty, [t], false⟩], false⟩) (x := some ⟨w3.heap.size + 1, 0, none⟩) (k := 1) (base := w.heap.size + 2) (d := 5) false o3 (by omega) (TyR.keeps ((Keeps.refl _ _).alloc _) _ _ _ r2)

theorem ownsRow_set {w : World} {b o base n size : Nat} {e : TypeId} {u v : Value} {xs : List Value} (hb : b < base) (h : w.ownsRow base e size v n xs) : (w.setCell ⟨b, o, none⟩ u).ownsRow base e size v n xs := by
  refine ⟨h.1, ?_⟩
  rcases h.2 with h0 | ⟨g, cap, cur, h1, h2, h3, h4⟩
  · exact Or.inl h0
  · exact Or.inr ⟨g, cap, cur, h1, h2, (Below.heap_setCell _ _ _ _ (by show g ≠ b; omega)).trans h3, h4⟩

theorem TyR.size {w : World} {base k : Nat} {t : Ty} {cs : List Value} (h : TyR w base (k + 1) t cs) : t.name.size ≤ 140737488351232 := by
  obtain ⟨_, _, h, _⟩ := h; exact h

def intTy : Ty := ⟨⟨#[73, 110, 116]⟩, [], false⟩

/-- A type whose list is one longer, its new list in a block of its own. -/
theorem TyR.longer {w w2 W : World} {m g cap : Nat} {t : Ty} {olds : List Value} {base : Nat} (hb : base ≤ g) (hbase : base ≤ w2.heap.size) (hs : t.name.size ≤ 140737488351232) (hK : Keeps base w2 W) (hle : t.of.length ≤ 1) (hlo : olds.length = t.of.length * 3)
    (hfo : ∀ (i : Nat) (h : i < t.of.length), ((olds.drop (i * 3)).take 3).length = 3 ∧ TyR w2 base 2 t.of[i] ((olds.drop (i * 3)).take 3)) {B : Nat} {e : TypeId} (hB : base ≤ B)
    (hown : W.ownsRow B e 3 (.slice (some ⟨g, 0, none⟩) (t.of.length + 1) cap) (t.of.length + 1) (olds ++ [.string ⟨#[73, 110, 116]⟩, .slice none 0 0, .bool false])) :
    TyR W base 4 ⟨t.name, t.of ++ [intTy], t.must⟩ [.string t.name, .slice (some ⟨g, 0, none⟩) (t.of ++ [intTy]).length cap, .bool t.must] := by
  have hl : (t.of ++ [intTy]).length = t.of.length + 1 := by simp
  rw [← hl] at hown
  obtain ⟨g', cap', he, hrow⟩ := row_of_owns (R := TyR W base 3) (fun i => if i < t.of.length then (olds.drop (i * 3)).take 3 else [.string ⟨#[73, 110, 116]⟩, .slice none 0 0, .bool false]) hown (by omega) (by omega)
    (by
      intro i hi j hj
      by_cases h : i < t.of.length
      · simp only [h, if_true]
        rw [List.getElem?_append_left (by omega), List.getElem?_take, if_pos hj, List.getElem?_drop]
      · obtain rfl : i = t.of.length := by omega
        simp only [Nat.lt_irrefl, if_false]
        rw [List.getElem?_append_right (by omega), hlo, Nat.add_sub_cancel_left])
    (by
      intro i hi
      by_cases h : i < t.of.length
      · simp only [h, if_true]
        refine ⟨(hfo i h).1, ?_⟩
        rw [List.getElem_append_left h]
        exact TyR.deep _ _ _ (TyR.keeps hK _ _ _ (hfo i h).2)
      · obtain rfl : i = t.of.length := by omega
        simp only [Nat.lt_irrefl, if_false]
        refine ⟨rfl, ?_⟩
        rw [List.getElem_append_right (Nat.le_refl _)]
        simp only [Nat.sub_self, List.getElem_cons_zero]
        exact ⟨_, rfl, by decide, Or.inl ⟨rfl, rfl⟩⟩)
  rw [← he] at hrow
  exact ⟨_, rfl, hs, hrow.base hB (fun _ _ h => h)⟩

set_option maxHeartbeats 2000000 in
theorem DrawTypePut_any (a : Option Addr) (len cap : Nat) (w : World) (hl : len ≤ 1048576) (hcap : len ≤ cap) (hc : CodeAt w a len) :
    Calls Try.prog 4 #[.slice a len cap] w (GotTy w) := by
  have HC : Hid (∀ o, CodeAt (w.alloc o) a len) := fun o i hi => by
    obtain ⟨b, off, z, h1, h2, h3⟩ := hc i hi
    exact ⟨b, off, z, h1, h2, (World.cell?_alloc_lt _ _ _ (cell_lt h3)).trans h3⟩
  have HL : Hid (LowA a len w.heap.size) := fun b off h1 h2 => by
    obtain ⟨b', off', z, h3, h4, h5⟩ := hc 0 h2
    rw [h1] at h3
    simp only [Option.some.injEq, Addr.mk.injEq, and_true] at h3
    obtain ⟨rfl, rfl⟩ := h3
    exact cell_lt h5
  clear hc
  go_enter Try.func4, Try.ntmps4
  go_wp2_with fail
  refine (l1Open_any a len cap _ hl hcap (HC.out _)).mono ?_
  rintro e w1 ⟨n, rfl, hR1, hb1⟩
  have hs1 := hR1.own.lt
  have hz1 : w.heap.size + 1 ≤ w1.heap.size := by simp at hs1; omega
  have HX1 : Hid (Owns w1 w.heap.size #[.string ByteArray.empty, .slice none 0 0, .bool false] 25) := (Owns.made w _ _).below hb1 (by simp)
  have HB1 : Hid (Below w.heap.size w w1) := ((Below.refl _ _).alloc (Nat.le_refl _) _).trans (hb1.mono (by simp))
  rw [show (w.alloc (.cells #[.string ⟨#[]⟩, .slice none 0 0, .bool false] 25)).heap.size = w.heap.size + 1 by simp] at hR1 hs1
  have HR1 : Hid (RdAt w1 (w.heap.size + 1) a n cap 0) := hR1
  clear hR1 hb1
  go_wp2_with fail
  refine (l13Type_any fourNames w1.heap.size 4 (w.heap.size + 1) a n cap 0 _ (by decide) (by decide) (by omega) (HR1.out.below (B := w1.heap.size) (by omega) HR1.out.low ((Below.refl _ _).alloc (Nat.le_refl _) _)) (by omega) (fun i h => strs_at w1 fourNames 9 i h) fourNames_named).mono ?_
  rintro e w2 ⟨t, x, m, p2, rfl, hT2, hF2, hR2, hp2, hU2, hm2⟩
  have hs2 := hU2.size
  simp at hs2
  have HX2 : Hid (Owns w2 w.heap.size #[.string ByteArray.empty, .slice none 0 0, .bool false] 25) := Owns.turns hU2 (by omega) (HX1.out.below ((Below.refl _ _).alloc (Nat.le_refl _) _) (by omega))
  have HB2 : Hid (Below w.heap.size w w2) := hU2.below (HB1.out.alloc (by omega) _) (by simp) (by simp; omega)
  have HT2 : Hid (TyR w2 (w.heap.size + 2) 3 t [.string t.name, .slice x t.of.length m, .bool t.must]) := TyR.base (by simp; omega) _ _ _ hT2
  have HR2 : Hid (RdAt w2 (w.heap.size + 1) a n cap p2) := hR2
  have HF2 : Hid (formedB 3 t = true) := hF2
  have HM2 : Hid (m = t.of.length) := hm2
  clear hT2 hF2 hR2 hU2 hm2 HR1 HB1 HX1
  go_wp2_with fail
  refine (pick_any 12 (w.heap.size + 1) a n cap p2 _ (by omega) (by omega) (by omega) (HR2.out.below (B := w2.heap.size) (by omega) HR2.out.low ((Below.refl _ _).alloc (Nat.le_refl _) _))).mono ?_
  rintro e w3 ⟨v, hv, rfl, hR3, hU3⟩
  have hs3 := hU3.size
  simp at hs3
  have HX3 : Hid (Owns w3 w.heap.size #[.string ByteArray.empty, .slice none 0 0, .bool false] 25) := Owns.turns hU3 (by omega) (HX2.out.below ((Below.refl _ _).alloc (Nat.le_refl _) _) (by omega))
  have HO3 : Hid (Owns w3 w2.heap.size #[.string t.name, .slice x t.of.length m, .bool t.must] 25) := Owns.turns hU3 (by omega) (Owns.made _ _ _)
  have HB3 : Hid (Below w.heap.size w w3) := hU3.below (HB2.out.alloc (by omega) _) (by simp) (by simp; omega)
  have HT3 : Hid (TyR w3 (w.heap.size + 2) 3 t [.string t.name, .slice x t.of.length m, .bool t.must]) := TyR.keeps (((Keeps.refl _ _).alloc _).trans (hU3.keeps (by omega))) _ _ _ HT2.out
  have HR3 : Hid (RdAt w3 (w.heap.size + 1) a n cap (p2 + 1)) := hR3
  have HK3 : Hid (Keeps (w.heap.size + 2) w2 w3) := ((Keeps.refl _ _).alloc _).trans (hU3.keeps (by omega))
  clear hR3 hU3 HR2 HB2 HX2
  obtain ⟨tb, htb⟩ : ∃ tb, w2.heap.size = tb := ⟨_, rfl⟩
  rw [htb] at hs2 hs3 HO3
  have HTB : Hid (w2.heap.size = tb) := htb
  rw [htb]
  clear htb
  have q0 : w3.cell? ⟨tb, 0, none⟩ = some (.string t.name) := by rw [HO3.out.cell]; rfl
  have q1 : w3.cell? ⟨tb, 1, none⟩ = some (.slice x t.of.length m) := by rw [HO3.out.cell]; rfl
  have q2 : w3.cell? ⟨tb, 2, none⟩ = some (.bool t.must) := by rw [HO3.out.cell]; rfl
  have s0 : w3.cell? ⟨w.heap.size, 0, none⟩ = some (.string ByteArray.empty) := by rw [HX3.out.cell]; rfl
  have s1 : w3.cell? ⟨w.heap.size, 1, none⟩ = some (.slice none 0 0) := by rw [HX3.out.cell]; rfl
  have s2 : w3.cell? ⟨w.heap.size, 2, none⟩ = some (.bool false) := by rw [HX3.out.cell]; rfl
  have z0 := fun o => HX3.out.frozen o
  have z1 := fun o => HO3.out.frozen o
  have t0 : tb < w3.heap.size := by omega
  have t1 : tb < w3.heap.size + 1 := by omega
  have t2 : tb < w3.heap.size + 1 + 1 := by omega
  have t3 : tb < w3.heap.size + 1 + 1 + 1 := by omega
  have u0 : w.heap.size < w3.heap.size := by omega
  have u1 : w.heap.size < w3.heap.size + 1 := by omega
  have u2 : w.heap.size < w3.heap.size + 1 + 1 := by omega
  have u3 : w.heap.size < w3.heap.size + 1 + 1 + 1 := by omega
  rcases (show v = 0 ∨ v = 1 ∨ v = 2 ∨ 3 ≤ v by omega) with rfl | rfl | rfl | hv3
  · go_wp2_with fail
    refine (of_any fourTexts w3.heap.size 4 (w.heap.size + 1) a n cap (p2 + 1) _ (by decide) (by decide) (by omega) (HR3.out.below (B := w3.heap.size) (by omega) HR3.out.low ((Below.refl _ _).alloc (Nat.le_refl _) _)) (by omega) (fun i h => strs_at w3 fourTexts 9 i h)).mono ?_
    rintro e w4 ⟨i, hi, rfl, hR4, hU4⟩
    have hsm := fourTexts_short _ (List.getElem_mem hi)
    have HO4 : Hid (Owns w4 tb #[.string t.name, .slice x t.of.length m, .bool t.must] 25) := Owns.turns hU4 (by omega) (HO3.out.below ((Below.refl _ _).alloc (Nat.le_refl _) _) (by omega))
    have HX4 : Hid (Owns w4 w.heap.size #[.string ByteArray.empty, .slice none 0 0, .bool false] 25) := Owns.turns hU4 (by omega) (HX3.out.below ((Below.refl _ _).alloc (Nat.le_refl _) _) (by omega))
    have HB4 : Hid (Below w.heap.size w w4) := hU4.below (HB3.out.alloc (by omega) _) (by simp) (by simp; omega)
    have HK4 : Hid (Keeps (w.heap.size + 2) w2 w4) := (HK3.out.alloc _).trans (hU4.keeps (by omega))
    have q0' : w4.cell? ⟨tb, 0, none⟩ = some (.string t.name) := by rw [HO4.out.cell]; rfl
    have q1' : w4.cell? ⟨tb, 1, none⟩ = some (.slice x t.of.length m) := by rw [HO4.out.cell]; rfl
    have q2' : w4.cell? ⟨tb, 2, none⟩ = some (.bool t.must) := by rw [HO4.out.cell]; rfl
    have s0' : w4.cell? ⟨w.heap.size, 0, none⟩ = some (.string ByteArray.empty) := by rw [HX4.out.cell]; rfl
    have s1' : w4.cell? ⟨w.heap.size, 1, none⟩ = some (.slice none 0 0) := by rw [HX4.out.cell]; rfl
    have s2' : w4.cell? ⟨w.heap.size, 2, none⟩ = some (.bool false) := by rw [HX4.out.cell]; rfl
    have z0' := fun o => HX4.out.frozen o
    have z1' := fun o => HO4.out.frozen o
    have hne : w.heap.size ≠ tb := by omega
    have hne' : tb ≠ w.heap.size := by omega
    clear hR4 hU4 q0 q1 q2 s0 s1 s2 z0 z1
    go_wp2_with fail
    refine bodyPost_ret (v := .agg #[.string fourTexts[i], .slice x t.of.length m, .bool t.must]) (by simp [results, Try.results4, go_sem, s0', s1', s2', hne, hne']) rfl ?_
    exact GotTy.fin (t := ⟨fourTexts[i], t.of, t.must⟩) (TyR.base (by omega) _ _ _ (TyR.named (TyR.keeps (HK4.out.setNew (by rw [HTB.out]; exact Nat.le_refl _) _) _ _ _ HT2.out) hsm)) (HB4.out.setCell (by show w.heap.size ≤ tb; omega) _)
  · have hne : w.heap.size ≠ tb := by omega
    have hne' : tb ≠ w.heap.size := by omega
    go_wp2_with fail
    refine bodyPost_ret (v := .agg #[.string ⟨#[]⟩, .slice (some ⟨w3.heap.size + 1 + 1, 0, none⟩) 1 1, .bool false]) (by simp [results, Try.results4, go_sem, s0, s1, s2, hne, hne', u0, u1, u2, u3]) rfl ?_
    have hgot := GotTy.fin (w := w) (TyR.base (Nat.le_succ _) _ _ _ (three_lists (w3 := w3) HTB.out (by omega) t0 HK3.out HB3.out HT2.out [.string ⟨#[]⟩, .slice (some ⟨w3.heap.size + 1 + 1, 0, none⟩) 1 1, .bool false]))
      ((((Below.setCells (b := tb) (by omega) _ _ HB3.out).alloc (by rw [setCells_size]; omega) _).alloc (by simp [setCells_size]; omega) _).alloc (by simp [setCells_size]; omega) _)
    rw [setCells_alloc _ _ _ _ _ (by simp [setCells_size]; omega), setCells_alloc _ _ _ _ _ (by simp [setCells_size]; omega), setCells_alloc _ _ _ _ _ (by simp [setCells_size]; omega)] at hgot
    exact hgot
  · have hne : w.heap.size ≠ tb := by omega
    have hne' : tb ≠ w.heap.size := by omega
    obtain ⟨olds, hlo, hle, holds, hnone, hfo⟩ := TyR.olds HF2.out HT2.out
    obtain ⟨i0, hi, hiz, his, hib⟩ := info_Type_parts
    have HOL : Hid (∀ b, x = some b → ∀ j u, olds[j]? = some u → (w3.alloc (.cells #[.string ⟨#[73, 110, 116]⟩, .slice none 0 0, .bool false] 25)).cell? (b.add j) = some u) := fun b hb j u hj => by
      obtain ⟨h1, h2⟩ := holds b hb j u hj
      exact (HK3.out.alloc _).cell h1 h2
    have HFO : Hid _ := hfo
    have HLO : Hid (olds.length = t.of.length * 3) := hlo
    have HNO : Hid (x = none → t.of.length = 0) := hnone
    clear holds hfo hlo hnone
    go_wp2_with (at_builtin; refine wpList_append_grows _ rfl (.tmp 30) (.tmp 32) 23 rfl 25 i0 (.agg #[.string ByteArray.empty, .slice none 0 0, .bool false]) 3 48 Try.underlying23 hi hiz his hib rfl (by decide) x t.of.length m olds rfl (fun h => ⟨HNO.out h, by rw [HM2.out]; exact HNO.out h⟩) HLO.out HOL.out ⟨w3.heap.size, 0, none⟩ 1 1 [.string ⟨#[73, 110, 116]⟩, .slice none 0 0, .bool false] rfl rfl ?c1 ?c2 (by rw [HM2.out]; omega) (by unfold maxLen; omega) (by omega) ?grow)
    case c1 =>
      intro j u hj
      rw [Addr.add_lit, (Owns.made w3 _ _).cell, Nat.zero_add, ← hj]
      simp
    case c2 =>
      intro u hu
      simp at hu
      rcases hu with rfl | rfl | rfl <;> rfl
    case grow =>
      intro v' w4 hown hgrow
      have hbel : Below w3.heap.size w3 w4 := ((Below.refl _ _).alloc (Nat.le_refl _) _).grown hgrow (by simp) (fun k h => by cases h)
      obtain ⟨g, cap', hg, rfl⟩ : ∃ g cap', w3.heap.size + 1 ≤ g ∧ v' = .slice (some ⟨g, 0, none⟩) (t.of.length + 1) cap' := by
        rcases hown.2 with ⟨_, h⟩ | ⟨g, cap', _, h, h', _⟩
        · omega
        · exact ⟨g, cap', h', h⟩
      have hs4 := hbel.size
      have q0' := cell_on hbel q0
      have q1' := cell_on hbel q1
      have q2' := cell_on hbel q2
      have s0' := cell_on hbel s0
      have s1' := cell_on hbel s1
      have s2' := cell_on hbel s2
      have z0' : ∀ o, w4.frozen? ⟨w.heap.size, o, none⟩ = false := fun o => ((bcell hbel).2 _ o u0).trans (z0 o)
      have z1' : ∀ o, w4.frozen? ⟨tb, o, none⟩ = false := fun o => ((bcell hbel).2 _ o t0).trans (z1 o)
      have HOW : Hid _ := hown
      have HB4 : Hid (Below w.heap.size w w4) := HB3.out.trans (hbel.mono (by omega))
      have HK4 : Hid (Keeps (w.heap.size + 2) w2 w4) := HK3.out.trans (Keeps.of_below hbel (Nat.le_refl _) _)
      clear hown hgrow hbel hi hiz his hib HOL HNO q0 q1 q2 s0 s1 s2 z0 z1
      go_wp2_with fail
      refine bodyPost_ret (v := .agg #[.string t.name, .slice (some ⟨g, 0, none⟩) (t.of.length + 1) cap', .bool t.must]) (by simp [results, Try.results4, go_sem, s0', s1', s2', hne, hne']) rfl ?_
      have hlen : (t.of ++ [intTy]).length = t.of.length + 1 := by simp
      have hT := TyR.longer (w := w) (m := m) (base := w.heap.size + 2) (by omega) (by have := HTB.out; omega) (TyR.size HT2.out) (HK4.out.setNew (o := 1) (by rw [HTB.out]; exact Nat.le_refl _) (.slice (some ⟨g, 0, none⟩) (t.of.length + 1) cap')) hle HLO.out HFO.out (by omega) (ownsRow_set (by omega) HOW.out)
      have hgot := GotTy.fin (t := ⟨t.name, t.of ++ [intTy], t.must⟩) (TyR.base (Nat.le_succ _) _ _ _ hT) (HB4.out.setCell (by show w.heap.size ≤ tb; omega) _)
      rw [hlen] at hgot
      exact hgot
  · have b0 : ((v : Int) == 0) = false := beq_eq_false_iff_ne.2 (by omega)
    have b1 : ((v : Int) == 1) = false := beq_eq_false_iff_ne.2 (by omega)
    have b2 : ((v : Int) == 2) = false := beq_eq_false_iff_ne.2 (by omega)
    go_wp2_with fail
    refine bodyPost_ret (v := .agg #[.string t.name, .slice x t.of.length m, .bool t.must]) (by simp [results, Try.results4, go_sem, s0, s1, s2]) rfl ?_
    exact GotTy.fin (TyR.base (by omega) _ _ _ (TyR.keeps HK3.out _ _ _ HT2.out)) HB3.out

end Go.Proofs.Ytnoofagimdanjaa
