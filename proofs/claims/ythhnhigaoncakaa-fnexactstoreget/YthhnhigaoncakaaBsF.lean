
/-
  DERIVED. THE WALKS OF THE SEARCH IN A STORE's TABLE: slices.BinarySearchFunc, place, at.
-/
import Derived.Test.YthhnhigaoncakaaStTb
import Derived.Test.YthhnhigaoncakaaVlInfo
import Derived.Deep.Cut
namespace Go.Proofs.Ythhnhigaoncakaa
open Go.RowKit
set_option linter.unusedVariables false
set_option linter.unusedSimpArgs false

theorem Row.slice {w : World} {base n wide : Nat} {α : Type} {R : α → List Value → Prop} {l : List α} {v : Value} (h : Row w base n wide R l v) : ∃ a m c, v = .slice a m c := by
  obtain ⟨a, c, h1, _⟩ := h.len
  exact ⟨a, _, c, h1⟩
/-- How two numbers lie. -/
def cmpI (a b : Int) : Int := if a < b then -1 else if b < a then 1 else 0

set_option maxHeartbeats 400000 in
theorem cmpCompare_any (a b : Int) (w : World) : Calls Try.prog 57 #[.int .i64 a, .int .i64 b] w fun e w' => e = .returned (.int .i64 (cmpI a b)) ∧ w' = w := by
  by_cases h1 : a < b
  · have h0 : cmpI a b = -1 := by unfold cmpI; rw [if_pos h1]
    rw [h0]
    go_enter Try.func57, Try.ntmps57
    go_wp2
    all_goals
      go_ret
      exact ⟨rfl, rfl⟩
  · by_cases h2 : b < a
    · have h0 : cmpI a b = 1 := by unfold cmpI; rw [if_neg h1, if_pos h2]
      rw [h0]
      go_enter Try.func57, Try.ntmps57
      go_wp2
      all_goals
        go_ret
        exact ⟨rfl, rfl⟩
    · have h0 : cmpI a b = 0 := by unfold cmpI; rw [if_neg h1, if_neg h2]
      rw [h0]
      go_enter Try.func57, Try.ntmps57
      go_wp2
      all_goals
        go_ret
        exact ⟨rfl, rfl⟩

set_option maxHeartbeats 400000 in
theorem placeOne_any (a : Int) (s : ByteArray) (v : Value) (b : Int) (w : World) : Calls Try.prog 56 #[.agg #[.int .i64 a, .string s, v], .int .i64 b] w fun e w' => e = .returned (.int .i64 (cmpI a b)) ∧ Below w.heap.size w w' := by
  go_enter Try.func56, Try.ntmps56
  go_wp2_with (go_at_call 57; refine (cmpCompare_any _ _ _).mono ?_; rintro e w1 ⟨rfl, rfl⟩)
  go_ret
  exact ⟨rfl, (Below.refl _ _).alloc (Nat.le_refl _) _⟩

theorem cmp_low {a b : Int} : cmpI a b < 0 ↔ a < b := by
  unfold cmpI
  split
  · simp_all
  · split <;> simp_all
theorem cmp_same {a b : Int} : cmpI a b = 0 ↔ a = b := by
  unfold cmpI
  split
  · simp; omega
  · split
    · simp; omega
    · simp; omega

/-- Nodes by their numbers, ascending. -/
def Asc (l : List Nd) : Prop := ∀ (i j : Nat) (h : j < l.length), (hij : i < j) → (l[i]'(by omega)).id < l[j].id

set_option maxRecDepth 8000 in
set_option maxHeartbeats 4000000 in
theorem search_any (k : Nat) (l : List Nd) (v : Value) (id : Int) (w : World) (hl : l.length ≤ 12) (hasc : Asc l) (hrow : ThRow w k l v) :
    Calls Try.prog 55 #[v, .int .i64 id, .func (.func 56) #[] #[]] w fun e w' =>
      ∃ (i : Nat) (f : Bool), e = .returned (.tuple #[.int .i64 (i : Int), .bool f]) ∧ (f = true → ∃ h : i < l.length, (l[i]'h).id = id) ∧ (f = false → ∀ (j : Nat) (h : j < l.length), (l[j]'h).id ≠ id) ∧ Below w.heap.size w w' := by
  obtain ⟨a, cap, rfl, hw, hrest⟩ := Row.len hrow
  have hlen : (l.length : Int) ≤ 12 := by omega
  clear hrow
  go_enter Try.func55, Try.ntmps55
  go_wp2_with fail
  go_loopw [9, 10] (fun vi vj wr => ∃ i j : Nat, i ≤ j ∧ j ≤ l.length ∧ vi = .int .i64 i ∧ vj = .int .i64 j ∧ Hid (∀ (m : Nat) (h : m < l.length), m < i → l[m].id < id) ∧ Hid (∀ (m : Nat) (h : m < l.length), j ≤ m → id ≤ l[m].id) ∧ Hid (Below w.heap.size w wr)) (fun vi vj _ => (intOf vj).toNat - (intOf vi).toNat)
  case atStart => exact ⟨0, l.length, Nat.zero_le _, Nat.le_refl _, rfl, rfl, (fun _ _ h => absurd h (Nat.not_lt_zero _)), (fun m h h2 => by omega), Below.refl _ _⟩
  case round =>
    obtain ⟨i, j, hij, hj, rfl, rfl, HLO, HHI, HB⟩ := hrel
    have hji : (j : Int) ≤ 12 := by omega
    have hii : (i : Int) ≤ 12 := by omega
    by_cases hlt : i < j
    · have hlti : (i : Int) < (j : Int) := by omega
      obtain ⟨q, hq0⟩ : ∃ q : Nat, q = (i + j) / 2 := ⟨_, rfl⟩
      have hq : ((i : Int) + (j : Int)) / 2 = (q : Int) := by omega
      have hqi : i ≤ q := by omega
      have hqj : q < j := by omega
      have hql : q < l.length := by omega
      have hqli : (q : Int) < (l.length : Int) := by omega
      have hq12 : (q : Int) ≤ 12 := by omega
      clear hq0
      obtain ⟨b, off, rfl, _, hcs⟩ := hrest (List.ne_nil_of_length_pos (by omega))
      obtain ⟨cs, _, hc, vt, rfl, hR⟩ := hcs q hql
      obtain ⟨a', m', c', rfl⟩ := Row.slice hR
      have hk : Keeps 0 w wr := Keeps.of_below HB.out (Nat.le_refl _) _
      obtain ⟨c0, c1, c2⟩ := (hc.keeps hk (Nat.zero_le _)).three
      clear hc hR hcs hrest hk
      obtain ⟨r, hr⟩ : ∃ r, cmpI l[q].id id = r := ⟨_, rfl⟩
      have HP : Hid (∀ W, Calls Try.prog 56 #[.agg #[.int .i64 l[q].id, .string l[q].type, .slice a' m' c'], .int .i64 id] W fun e w' => e = .returned (.int .i64 r) ∧ Below W.heap.size W w') := fun W => by rw [← hr]; exact placeOne_any _ _ _ _ _
      by_cases hlo : l[q].id < id
      · have hrn : r < 0 := by rw [← hr]; exact cmp_low.2 hlo
        have HLO2 : Hid (∀ (m : Nat) (h : m < l.length), m < q + 1 → l[m].id < id) := fun m h hm => by
          rcases Nat.lt_succ_iff_lt_or_eq.1 hm with h1 | rfl
          · have := hasc m q hql h1; omega
          · exact hlo
        clear hr hlo
        go_wp2_with (go_at_call 56; refine (HP.out _).mono ?_; rintro e w1 ⟨rfl, hb1⟩)
        exact ⟨⟨q + 1, j, by omega, hj, by go_num, rfl, HLO2, HHI, HB.out.trans (hb1.mono HB.out.size)⟩, by simp [intOf]; omega⟩
      · have hrn : decide (r < 0) = false := decide_eq_false (by rw [← hr, cmp_low]; exact hlo)
        have HHI2 : Hid (∀ (m : Nat) (h : m < l.length), q ≤ m → id ≤ l[m].id) := fun m h hm => by
          rcases Nat.eq_or_lt_of_le hm with rfl | h1
          · omega
          · have := hasc q m h h1; omega
        clear hr hlo
        go_wp2_with (go_at_call 56; refine (HP.out _).mono ?_; rintro e w1 ⟨rfl, hb1⟩)
        exact ⟨⟨i, q, hqi, by omega, rfl, rfl, HLO, HHI2, HB.out.trans (hb1.mono HB.out.size)⟩, by simp [intOf]; omega⟩
    · obtain rfl : i = j := by omega
      have hlti : decide ((i : Int) < (i : Int)) = false := decide_eq_false (by omega)
      by_cases hin : i < l.length
      · have hini : (i : Int) < (l.length : Int) := by omega
        obtain ⟨b, off, rfl, _, hcs⟩ := hrest (List.ne_nil_of_length_pos (by omega))
        obtain ⟨cs, _, hc, vt, rfl, hR⟩ := hcs i hin
        obtain ⟨a', m', c', rfl⟩ := Row.slice hR
        have hk : Keeps 0 w wr := Keeps.of_below HB.out (Nat.le_refl _) _
        obtain ⟨c0, c1, c2⟩ := (hc.keeps hk (Nat.zero_le _)).three
        clear hc hR hcs hrest hk
        obtain ⟨r, hr⟩ : ∃ r, cmpI l[i].id id = r := ⟨_, rfl⟩
        have HP : Hid (∀ W, Calls Try.prog 56 #[.agg #[.int .i64 l[i].id, .string l[i].type, .slice a' m' c'], .int .i64 id] W fun e w' => e = .returned (.int .i64 r) ∧ Below W.heap.size W w') := fun W => by rw [← hr]; exact placeOne_any _ _ _ _ _
        have HF : Hid ((r == 0) = true ↔ l[i].id = id) := by show _ ↔ _; rw [beq_iff_eq, ← hr]; exact cmp_same
        clear hr
        go_wp2_with (go_at_call 56; refine (HP.out _).mono ?_; rintro e w1 ⟨rfl, hb1⟩)
        refine bodyPost_ret (v := .tuple #[.int .i64 (i : Int), .bool (r == 0)]) (by simp [results, Try.results55, go_sem]) rfl ?_
        refine ⟨i, r == 0, rfl, fun h => ⟨hin, HF.out.1 h⟩, fun h m hm he => ?_, HB.out.trans (hb1.mono HB.out.size)⟩
        have hne : ¬ l[i].id = id := fun h2 => by rw [HF.out.2 h2] at h; simp at h
        by_cases hmi : m < i
        · have := HLO.out m hm hmi; omega
        · rcases Nat.eq_or_lt_of_le (Nat.le_of_not_lt hmi) with rfl | h1
          · exact hne he
          · have h2 := HHI.out i hin (Nat.le_refl _)
            have h3 := hasc i m hm h1
            omega
      · have hini : decide ((i : Int) < (l.length : Int)) = false := decide_eq_false (by omega)
        clear hrest
        go_wp2_with fail
        refine bodyPost_ret (v := .tuple #[.int .i64 (i : Int), .bool false]) (by simp [results, Try.results55, go_sem]) rfl ?_
        refine ⟨i, false, rfl, fun h => by simp at h, fun _ m hm he => ?_, HB.out⟩
        have := HLO.out m hm (by omega)
        omega

set_option maxHeartbeats 1000000 in
theorem place_any (k : Nat) (l : List Nd) (v : Value) (id : Int) (w : World) (hl : l.length ≤ 12) (hasc : Asc l) (hrow : ThRow w k l v) :
    Calls Try.prog 50 #[v, .int .i64 id] w fun e w' =>
      ∃ (i : Nat) (f : Bool), e = .returned (.tuple #[.int .i64 (i : Int), .bool f]) ∧ (f = true → ∃ h : i < l.length, (l[i]'h).id = id) ∧ (f = false → ∀ (j : Nat) (h : j < l.length), (l[j]'h).id ≠ id) ∧ Below w.heap.size w w' := by
  have HS : Hid (∀ W, Keeps 0 w W → ThRow W k l v) := fun W h => hrow.keeps h
  clear hrow
  go_enter Try.func50, Try.ntmps50
  go_wp2_with fail
  refine (search_any k l v id _ hl hasc (HS.out _ (Keeps.refl _ _))).mono ?_
  rintro e w1 ⟨i, f, rfl, h1, h2, hb⟩
  have H : Hid ((f = true → ∃ h : i < l.length, (l[i]'h).id = id) ∧ (f = false → ∀ (j : Nat) (h : j < l.length), (l[j]'h).id ≠ id) ∧ Below w.heap.size w w1) := ⟨h1, h2, hb⟩
  clear h1 h2 hb
  go_wp2_with fail
  exact bodyPost_ret (v := .tuple #[.int .i64 (i : Int), .bool f]) (by simp [results, Try.results50, go_sem]) rfl ⟨i, f, rfl, H.out⟩

/-- What a table has under a number: good wherever what there was at w0 is as it was. -/
def AtT0 (k : Nat) (l : List Nd) (id : Int) (w0 w : World) (e : Ending) (w' : World) : Prop :=
  ((∃ (i : Nat) (h : i < l.length) (vt : Value), (l[i]'h).id = id ∧ e = .returned (.tuple #[.agg #[.string (l[i]'h).type, vt], .bool true]) ∧ (∃ a n c, vt = .slice a n c) ∧ ∀ W, Keeps 0 w0 W → Row W 0 2 32 (BrC W 0 k) ((l[i]'h).cells.names.zip (l[i]'h).cells.list) vt) ∨
    ((∀ (j : Nat) (h : j < l.length), (l[j]'h).id ≠ id) ∧ e = .returned (.tuple #[.agg #[.string ByteArray.empty, .slice none 0 0], .bool false]))) ∧ Below w.heap.size w w'

set_option maxHeartbeats 1000000 in
theorem at_any0 (k : Nat) (l : List Nd) (v : Value) (id : Int) (w0 w : World) (hk0 : Keeps 0 w0 w) (hl : l.length ≤ 12) (hasc : Asc l) (hrow : ThRow w0 k l v) :
    Calls Try.prog 37 #[v, .int .i64 id] w (AtT0 k l id w0 w) := by
  have HS : Hid (∀ W, Keeps 0 w0 W → ThRow W k l v) := fun W h => hrow.keeps h
  obtain ⟨a, cap, rfl, _, _⟩ := Row.len hrow
  clear hrow
  have hl' : (l.length : Int) ≤ 12 := by omega
  go_enter Try.func37, Try.ntmps37
  go_wp2_with fail
  refine (place_any k l _ id _ hl hasc (HS.out _ (hk0.alloc _))).mono ?_
  rintro e w1 ⟨i, f, rfl, h1, h2, hb⟩
  have HO : Hid (Owns w1 w.heap.size #[.string ⟨#[]⟩, .slice none 0 0] 75) := (Owns.made w _ _).below hb (by simp)
  have HB : Hid (Below w.heap.size w w1) := ((Below.refl _ _).alloc (Nat.le_refl _) _).trans (hb.mono (by simp))
  have r0 : w1.cell? ⟨w.heap.size, 0, none⟩ = some (.string ⟨#[]⟩) := by rw [HO.out.cell]; rfl
  have r1 : w1.cell? ⟨w.heap.size, 1, none⟩ = some (.slice none 0 0) := by rw [HO.out.cell]; rfl
  have rf := fun o => HO.out.frozen o
  have hrl := HO.out.lt
  clear hb
  cases f
  · have HN : Hid (∀ (j : Nat) (h : j < l.length), (l[j]'h).id ≠ id) := h2 rfl
    clear h1 h2
    go_wp2_with fail
    refine bodyPost_ret (v := .tuple #[.agg #[.string ByteArray.empty, .slice none 0 0], .bool false]) (by simp [results, Try.results37, go_sem, r0, r1, hrl]; try rfl) rfl ⟨Or.inr ⟨HN.out, rfl⟩, ?_⟩
    first | exact HB.out | exact (HB.out.setCell (by simp) _).setCell (by simp) _
  · obtain ⟨hi, hid⟩ := h1 rfl
    have HID : Hid (l[i].id = id) := hid
    clear h1 h2 hid
    obtain ⟨a2, cap2, hv, _, hrest⟩ := Row.len (HS.out w0 (Keeps.refl _ _))
    simp only [Value.slice.injEq, true_and] at hv
    obtain ⟨rfl, rfl⟩ := hv
    obtain ⟨b, off, rfl, _, hcs⟩ := hrest (List.ne_nil_of_length_pos (by omega))
    obtain ⟨cs, _, hc, vt, rfl, hR⟩ := hcs i hi
    obtain ⟨a', m', c', rfl⟩ := Row.slice hR
    obtain ⟨c0, c1, c2⟩ := (hc.keeps (hk0.trans (Keeps.of_below HB.out (Nat.le_refl _) _)) (Nat.zero_le _)).three
    have hii : (i : Int) < (l.length : Int) := by omega
    have hi12 : (i : Int) ≤ 12 := by omega
    have HR : Hid (∀ W, Keeps 0 w0 W → Row W 0 2 32 (BrC W 0 k) (l[i].cells.names.zip l[i].cells.list) (.slice a' m' c')) := fun W h => Row.keeps h (BrC.keeps h k) hR
    clear hc hR hcs hrest
    go_wp2_with fail
    obtain ⟨Wf, hWf⟩ : ∃ W, W = (((w1.setCell ⟨w.heap.size, 0, none⟩ (.string l[i].type)).setCell ⟨w.heap.size, 1, none⟩ (.slice a' m' c')).setCell ⟨w.heap.size, 0, none⟩ (.string l[i].type)).setCell ⟨w.heap.size, 1, none⟩ (.slice a' m' c') := ⟨_, rfl⟩
    have hOf : Owns Wf w.heap.size #[.string l[i].type, .slice a' m' c'] 75 := by
      rw [hWf]
      have := (((HO.out.set 0 (.string l[i].type)).set 1 (.slice a' m' c')).set 0 (.string l[i].type)).set 1 (.slice a' m' c')
      simpa using this
    have hBf : Below w.heap.size w Wf := by
      rw [hWf]
      exact (((HB.out.setCell (by simp) _).setCell (by simp) _).setCell (by simp) _).setCell (by simp) _
    rw [← hWf]
    clear hWf r0 r1
    have f0 : Wf.cell? ⟨w.heap.size, 0, none⟩ = some (.string l[i].type) := by rw [hOf.cell]; rfl
    have f1 : Wf.cell? ⟨w.heap.size, 1, none⟩ = some (.slice a' m' c') := by rw [hOf.cell]; rfl
    exact bodyPost_ret (v := .tuple #[.agg #[.string l[i].type, .slice a' m' c'], .bool true]) (by simp [results, Try.results37, go_sem, f0, f1]; try rfl) rfl ⟨Or.inl ⟨i, hi, _, HID.out, rfl, ⟨_, _, _, rfl⟩, HR.out⟩, hBf⟩

/-- What a table has under a number. -/
def AtT (k : Nat) (l : List Nd) (id : Int) (w : World) (e : Ending) (w' : World) : Prop :=
  ((∃ (i : Nat) (h : i < l.length) (vt : Value), (l[i]'h).id = id ∧ e = .returned (.tuple #[.agg #[.string (l[i]'h).type, vt], .bool true]) ∧ (∃ a n c, vt = .slice a n c) ∧ Row w' 0 2 32 (BrC w' 0 k) ((l[i]'h).cells.names.zip (l[i]'h).cells.list) vt) ∨
    ((∀ (j : Nat) (h : j < l.length), (l[j]'h).id ≠ id) ∧ e = .returned (.tuple #[.agg #[.string ByteArray.empty, .slice none 0 0], .bool false]))) ∧ Below w.heap.size w w'

theorem at_any (k : Nat) (l : List Nd) (v : Value) (id : Int) (w : World) (hl : l.length ≤ 12) (hasc : Asc l) (hrow : ThRow w k l v) :
    Calls Try.prog 37 #[v, .int .i64 id] w (AtT k l id w) :=
  (at_any0 k l v id w w (Keeps.refl _ _) hl hasc hrow).mono fun e w' ⟨h1, h2⟩ => ⟨by
    rcases h1 with ⟨i, h, vt, a1, a2, a3, a4⟩ | h1
    · exact Or.inl ⟨i, h, vt, a1, a2, a3, a4 _ (Keeps.of_below h2 (Nat.le_refl _) 0)⟩
    · exact Or.inr h1, h2⟩

end Go.Proofs.Ythhnhigaoncakaa
