
/-
  DERIVED. THE WALKS OF spec.l1Many, spec.l13Text, spec.l2Has.
-/
import Derived.Test.YtdaohfeajicamaaDrawU
import Derived.WalkSpells
import Derived.WalkLawsBesides
import Derived.Deep.LoopGhost
namespace Go.Proofs.Ytdaohfeajicamaa
open Go.RowKit
set_option linter.unusedVariables false
set_option linter.unusedSimpArgs false

set_option maxHeartbeats 1000000 in
theorem l1Many_any (s : ByteArray) (n : Nat) (w : World) (hs : s.size ≤ 1) (hn : n ≤ 1000) :
    Calls Try.prog 67 #[.string s, .int .i64 (n : Int)] w fun e w' => ∃ r : ByteArray, e = .returned (.string r) ∧ r.size ≤ 140737488351232 ∧ w' = w := by
  go_enter Try.func67, Try.ntmps67
  go_wp2_with fail
  go_loopg [0, 1, 5] n (fun k a b c wr => ∃ (sa sc : ByteArray), a = .string sa ∧ b = .int .i64 (k : Int) ∧ c = .string sc ∧ wr = w ∧ k ≤ 1000 ∧ Hid (sc.size + sa.size * k ≤ 1000))
  case atStart =>
    refine ⟨s, ⟨#[]⟩, rfl, rfl, rfl, rfl, hn, ?_⟩
    show (⟨#[]⟩ : ByteArray).size + s.size * n ≤ 1000
    have h1 : s.size * n ≤ 1 * n := Nat.mul_le_mul_right _ hs
    have h2 : (⟨#[]⟩ : ByteArray).size = 0 := rfl
    omega
  case round =>
    rename Nat => k
    obtain ⟨sa, sc, rfl, rfl, rfl, rfl, hk, HZ⟩ := hrel
    by_cases hz : k = 0
    · subst hz
      have h1 : sc.size ≤ 140737488351232 := by have := HZ.out; omega
      go_wp2_with fail
      go_ret
      exact ⟨sc, rfl, h1, rfl⟩
    · have hk1 : (0 : Int) < (k : Int) := by omega
      have hk2 : (k : Int) ≤ 1000 := by omega
      have hsa : sa.size ≤ 1000 := by
        have h1 := HZ.out
        have h2 : sa.size * 1 ≤ sa.size * k := Nat.mul_le_mul_left _ (by omega)
        omega
      have hsc : sc.size ≤ 1000 := by have := HZ.out; omega
      obtain ⟨m, hdiv, HM⟩ : ∃ m : Nat, (k : Int) / 2 = (m : Int) ∧ Hid (m = k / 2) := ⟨k / 2, by omega, rfl⟩
      by_cases hodd : k % 2 = 1
      · have hmod : (k : Int) % 2 = 1 := by omega
        have HZ2 : Hid ((sc ++ sa).size + (sa ++ sa).size * m ≤ 1000) := by
          show _ ≤ _
          have hm := HM.out
          rw [hm]
          have h1 := HZ.out
          rw [ByteArray.size_append, ByteArray.size_append]
          have h2 : k = 2 * (k / 2) + 1 := by omega
          have h3 : sa.size * k = (sa.size + sa.size) * (k / 2) + sa.size := by
            conv => lhs; rw [h2]
            rw [Nat.mul_add, Nat.mul_one, ← Nat.mul_assoc, Nat.mul_two]
          omega
        go_wp2_with fail
        go_roundg m
        case rel => exact ⟨sa ++ sa, sc ++ sa, rfl, rfl, rfl, rfl, by have := HM.out; omega, HZ2⟩
        case measure => have := HM.out; omega
      · have hmod : (k : Int) % 2 = 0 := by omega
        have HZ2 : Hid (sc.size + (sa ++ sa).size * m ≤ 1000) := by
          show _ ≤ _
          have hm := HM.out
          rw [hm]
          have h1 := HZ.out
          rw [ByteArray.size_append]
          have h2 : k = 2 * (k / 2) := by omega
          have h3 : sa.size * k = (sa.size + sa.size) * (k / 2) := by
            conv => lhs; rw [h2]
            rw [← Nat.mul_assoc, Nat.mul_two]
          omega
        go_wp2_with fail
        go_roundg m
        case rel => exact ⟨sa ++ sa, sc, rfl, rfl, rfl, rfl, by have := HM.out; omega, HZ2⟩
        case measure => have := HM.out; omega

set_option maxHeartbeats 1000000 in
theorem l2Has_any (l : List ByteArray) (v : Value) (s : ByteArray) (w : World) (hrow : StrRow w 0 l v) :
    Calls Try.prog 87 #[v, .string s] w fun e w' => ∃ b : Bool, e = .returned (.bool b) ∧ (b = true ↔ s ∈ l) ∧ Below w.heap.size w w' := by
  obtain ⟨a, cap, rfl, hw, hrest⟩ := hrow.len
  have hlen : (l.length : Int) ≤ 140737488351232 := by omega
  clear hrow
  have HN : Hid _ := hrest
  clear hrest
  go_enter Try.func87, Try.ntmps87
  go_wp2_with fail
  go_loopw [5] (fun i wr => ∃ j : Nat, j ≤ l.length ∧ i = .int .i64 j ∧ Hid (s ∉ l.take j) ∧ Hid (Below w.heap.size w wr)) (fun i _ => l.length - (intOf i).toNat)
  case atStart => exact ⟨0, Nat.zero_le _, rfl, (by show ¬ _; simp), Below.refl _ _⟩
  case round =>
    obtain ⟨j, hj, rfl, HT, HB⟩ := hrel
    by_cases hlt : j < l.length
    · obtain ⟨b, off, hab, _, hcs⟩ := HN.out (List.ne_nil_of_length_pos (by omega))
      obtain ⟨c0, _⟩ := hcs j hlt
      subst hab
      have c1 : wr.cell? ⟨b, off + j, none⟩ = some (.string l[j]) := (Keeps.of_below HB.out (Nat.le_refl _) 0).cell (Nat.zero_le _) c0
      clear hcs c0 HN
      by_cases hej : l[j] = s
      · have HX : Hid (s ∈ l) := by show _ ∈ _; rw [← hej]; exact List.getElem_mem hlt
        rw [hej] at c1
        clear hej
        go_wp2_with fail
        go_ret
        exact ⟨true, rfl, by simp [HX.out], HB.out⟩
      · have hx : (l[j].toList == s.toList) = false := by
          rw [beq_eq_false_iff_ne]; intro e; exact hej (by rw [ByteArray.toList_eq, ByteArray.toList_eq] at e; exact ByteArray.ext (Array.toList_inj.1 e))
        have HX : Hid (s ∉ l.take (j + 1)) := by
          show ¬ _
          rw [List.take_succ_eq_append_getElem hlt, List.mem_append, List.mem_singleton]
          exact fun h => h.elim HT.out (fun h => hej h.symm)
        clear hej
        go_wp2_with fail
        exact ⟨⟨j + 1, by omega, by go_num, HX, HB⟩, by simp [intOf]; omega⟩
    · obtain rfl : j = l.length := by omega
      have HX : Hid (s ∉ l) := by have h := HT.out; rw [List.take_length] at h; exact h
      go_wp2_with fail
      go_ret
      exact ⟨false, rfl, by simp [HX.out], HB.out⟩

theorem strs_atV (w : World) (l : List ByteArray) (e : TypeId) (i : Nat) (h : i < l.length) : (w.alloc (.cells (l.map Value.string).toArray e)).cell? ⟨w.heap.size, i, none⟩ = some (.string l[i]) := by
  rw [(Owns.made w _ e).cell]
  simp [h]
theorem ints_atV (w : World) (l : List Int) (e : TypeId) (i : Nat) (h : i < l.length) : (w.alloc (.cells (l.map (Value.int .i64)).toArray e)).cell? ⟨w.heap.size, i, none⟩ = some (.int .i64 l[i]) := by
  rw [(Owns.made w _ e).cell]
  simp [h]
/-- The code of a reader lies below B. -/
def LowV (a : Option Addr) (n B : Nat) : Prop := ∀ b off, a = some ⟨b, off, none⟩ → 0 < n → b < B
theorem RdAt.lowV {w : World} {rb : Nat} {a : Option Addr} {n c p : Nat} (h : RdAt w rb a n c p) : LowV a n w.heap.size := by
  intro b off ha hn
  obtain ⟨b', off', z, h1, _, _, h4⟩ := h.byte 0 hn
  rw [ha] at h1
  simp only [Option.some.injEq, Addr.mk.injEq, and_true] at h1
  obtain ⟨rfl, rfl⟩ := h1
  exact cell_lt h4
theorem RdAt.grew {w w' : World} {rb : Nat} {a : Option Addr} {n c p B : Nat} (h : RdAt w rb a n c p) (hB : rb < B) (hA : LowV a n B) (hb : ∀ q, q < B → w'.heap[q]? = w.heap[q]?) : RdAt w' rb a n c p := by
  refine ⟨?_, h.len, fun i hi => ?_⟩
  · have := h.own
    unfold Owns at this ⊢
    rw [hb rb hB]; exact this
  · obtain ⟨b, off, z, h1, h2, h3, h4⟩ := h.byte i hi
    refine ⟨b, off, z, h1, h2, h3, ?_⟩
    rw [World.cell?_of_block (w := w) (hb b (hA b off h1 (by omega)))]
    exact h4
theorem RdAt.alloc {w : World} {rb : Nat} {a : Option Addr} {n c p : Nat} (h : RdAt w rb a n c p) (o : Obj) : RdAt (w.alloc o) rb a n c p :=
  h.grew h.own.lt h.lowV (fun q hq => Below.heap_alloc _ _ _ hq)
theorem Owns.sameW {w w' : World} {b : Nat} {c : Array Value} {e : TypeId} (h : Owns w b c e) (hb : w'.heap[b]? = w.heap[b]?) : Owns w' b c e := by
  unfold Owns at h ⊢; rw [hb]; exact h
theorem Turns.allocV {bs : List Nat} {a w : World} (h : Turns bs a w) (o : Obj) : Turns bs a (w.alloc o) :=
  h.trans (Turns.of_below ((Below.refl w.heap.size w).alloc (Nat.le_refl _) o) (Nat.le_refl _))

set_option maxHeartbeats 1000000 in
theorem l13Text_any (rb : Nat) (a : Option Addr) (n c p : Nat) (w : World) (hp : p ≤ 1000000) (hR : RdAt w rb a n c p) :
    Calls Try.prog 86 #[.pointer (some ⟨rb, 0, none⟩)] w fun e w' => ∃ s : ByteArray, e = .returned (.string s) ∧ s.size ≤ 140737488351232 ∧ RdAt w' rb a n c (p + 1) ∧ Turns [rb] w w' := by
  have HR : Hid (RdAt w rb a n c p) := hR
  have hrb := hR.own.lt
  clear hR
  go_enter Try.func86, Try.ntmps86
  go_wp2_with fail
  refine (l1Many_any ⟨#[120]⟩ 40 w (by decide) (by omega)).mono ?_
  rintro e w1 ⟨r, rfl, hr, rfl⟩
  go_wp2_with fail
  refine (of_any [⟨#[]⟩, ⟨#[97]⟩, ⟨#[104, 101, 108, 108, 111]⟩, ⟨#[34, 113, 34]⟩, ⟨#[108, 105, 110, 101, 10]⟩, ⟨#[0, 255]⟩, ⟨#[92]⟩, r, ⟨#[67, 65, 84]⟩] w1.heap.size 9 rb a n c p _ (by simp) (by simp) hp (HR.out.alloc _) (by omega) (fun i h => strs_atV w1 _ _ i h)).mono ?_
  rintro e w2 ⟨i, hi, rfl, hR2, hT2⟩
  have HR2 : Hid (RdAt w2 rb a n c (p + 1)) := hR2
  have HT2 : Hid (Turns [rb] w1 w2) := ((Turns.refl _ _).allocV _).trans hT2
  have HS : Hid (([⟨#[]⟩, ⟨#[97]⟩, ⟨#[104, 101, 108, 108, 111]⟩, ⟨#[34, 113, 34]⟩, ⟨#[108, 105, 110, 101, 10]⟩, ⟨#[0, 255]⟩, ⟨#[92]⟩, r, ⟨#[67, 65, 84]⟩] : List ByteArray)[i].size ≤ 140737488351232) := by
    show _ ≤ _
    simp at hi
    rcases (show i = 0 ∨ i = 1 ∨ i = 2 ∨ i = 3 ∨ i = 4 ∨ i = 5 ∨ i = 6 ∨ i = 7 ∨ i = 8 by omega) with rfl | rfl | rfl | rfl | rfl | rfl | rfl | rfl | rfl
    all_goals first | exact hr | (simp only [List.getElem_cons_zero, List.getElem_cons_succ]; decide)
  clear hR2 hT2
  generalize ([⟨#[]⟩, ⟨#[97]⟩, ⟨#[104, 101, 108, 108, 111]⟩, ⟨#[34, 113, 34]⟩, ⟨#[108, 105, 110, 101, 10]⟩, ⟨#[0, 255]⟩, ⟨#[92]⟩, r, ⟨#[67, 65, 84]⟩] : List ByteArray)[i] = s at HS
  go_wp2_with fail
  go_ret
  exact ⟨s, rfl, HS.out, HR2.out, HT2.out⟩

end Go.Proofs.Ytdaohfeajicamaa
