
/-
  DERIVED. THE WALK OF impl.treeForm.indexOf: where a name stands first.
-/
import Derived.Test.YtdaohfeajicamaaRepF
import Derived.Test.YtdaohfeajicamaaRows
import Derived.Test.YtdaohfeajicamaaTreeAt
import Derived.WalkKit
import Derived.WalkSpells
import Derived.WalkLawsBesides
import Derived.Deep.RegionWith
import Derived.BigQuiet
namespace Go.Proofs.Ytdaohfeajicamaa
open Go.RowKit
set_option linter.unusedVariables false
set_option linter.unusedSimpArgs false

set_option maxHeartbeats 1000000 in
theorem named_any (x s : ByteArray) (T : TypeId) (y : Value) (nb : Nat) (w : World) (hn : w.cell? ⟨nb, 0, none⟩ = some (.string s)) :
    Calls Try.prog 91 #[.agg #[.string x, .iface T y], .pointer (some ⟨nb, 0, none⟩)] w fun e w' => e = .returned (.bool (x.toList == s.toList)) ∧ Below w.heap.size w w' := by
  have hnl : nb < w.heap.size := cell_lt hn
  go_enter Try.func91, Try.ntmps91
  go_wp2_with fail
  go_ret
  exact ⟨rfl, (Below.refl _ _).alloc (Nat.le_refl _) _⟩

/-- Where a name stands first. -/
def IdxP (l : List (ByteArray × Vl)) (s : ByteArray) (r : Int) : Prop :=
  (∃ (i : Nat) (h : i < l.length), r = (i : Int) ∧ (l[i].1.toList == s.toList) = true ∧ ∀ (m : Nat) (h : m < l.length), m < i → (l[m].1.toList == s.toList) = false) ∨
  (r = -1 ∧ ∀ (m : Nat) (h : m < l.length), (l[m].1.toList == s.toList) = false)

set_option maxHeartbeats 1000000 in
theorem index_any (k : Nat) (l : List (ByteArray × Vl)) (v : Value) (s : ByteArray) (nb : Nat) (w : World) (hrow : Row w 0 2 32 (BrC w 0 k) l v) (hn : w.cell? ⟨nb, 0, none⟩ = some (.string s)) :
    Calls Try.prog 90 #[v, .func (.func 91) #[] #[.pointer (some ⟨nb, 0, none⟩)]] w fun e w' => ∃ r, e = .returned (.int .i64 r) ∧ IdxP l s r ∧ Below w.heap.size w w' := by
  obtain ⟨a, cap, rfl, hw, hrest⟩ := Row.len hrow
  have hlen : (l.length : Int) * 32 ≤ 140737488351232 := by omega
  have HREST : Hid _ := hrest
  have HN : Hid (w.cell? ⟨nb, 0, none⟩ = some (.string s)) := hn
  clear hrow hrest hn
  go_enter Try.func90, Try.ntmps90
  go_wp2_with fail
  go_loopw [8] (fun vi wr => ∃ j : Nat, j ≤ l.length ∧ vi = .int .i64 j ∧ Hid (∀ (m : Nat) (h : m < l.length), m < j → (l[m].1.toList == s.toList) = false) ∧ Hid (Below w.heap.size w wr)) (fun vi _ => l.length - (intOf vi).toNat)
  case atStart => exact ⟨0, Nat.zero_le _, rfl, fun _ _ h => absurd h (Nat.not_lt_zero _), Below.refl _ _⟩
  case round =>
    obtain ⟨j, hj, rfl, HNO, HB⟩ := hrel
    have hj12 : (j : Int) * 32 ≤ 140737488351232 := by omega
    by_cases hlt : j < l.length
    · have hlti : (j : Int) < (l.length : Int) := by omega
      obtain ⟨b, off, rfl, _, hcs⟩ := HREST.out (List.ne_nil_of_length_pos (by omega))
      obtain ⟨cs, _, hc, f, rfl, hf⟩ := hcs j hlt
      obtain ⟨T, y, rfl⟩ := FmR.iface hf
      have hk : Keeps 0 w wr := Keeps.of_below HB.out (Nat.le_refl _) _
      have hck := hc.keeps hk (Nat.zero_le _)
      have c0 : wr.cell? ⟨b, off + j * 2, none⟩ = some (.string l[j].1) := hck 0 (by simp)
      have c1 : wr.cell? ⟨b, off + j * 2 + 1, none⟩ = some (.iface T y) := hck 1 (by simp)
      have HP : Hid (∀ W, Below w.heap.size w W → Calls Try.prog 91 #[.agg #[.string l[j].1, .iface T y], .pointer (some ⟨nb, 0, none⟩)] W fun e w' => e = .returned (.bool (l[j].1.toList == s.toList)) ∧ Below W.heap.size W w') := fun W h => named_any _ _ _ _ _ _ (cell_on h HN.out)
      clear hc hf hcs hk hck
      cases heb : (l[j].1.toList == s.toList)
      · have HNO2 : Hid (∀ (m : Nat) (h : m < l.length), m < j + 1 → (l[m].1.toList == s.toList) = false) := fun m h hm => by
          rcases Nat.lt_succ_iff_lt_or_eq.1 hm with h1 | rfl
          · exact HNO.out m h h1
          · exact heb
        rw [heb] at HP
        clear heb
        go_wp2_with (go_at_call 91; refine (HP.out _ HB.out).mono ?_; rintro e w1 ⟨rfl, hb1⟩)
        exact ⟨⟨j + 1, by omega, by go_num, HNO2, HB.out.trans (hb1.mono HB.out.size)⟩, by simp [intOf]; omega⟩
      · have HE : Hid ((l[j].1.toList == s.toList) = true) := heb
        rw [heb] at HP
        clear heb
        go_wp2_with (go_at_call 91; refine (HP.out _ HB.out).mono ?_; rintro e w1 ⟨rfl, hb1⟩)
        go_ret
        exact ⟨_, rfl, Or.inl ⟨j, hlt, rfl, HE.out, HNO.out⟩, HB.out.trans (hb1.mono HB.out.size)⟩
    · have hlti : decide ((j : Int) < (l.length : Int)) = false := decide_eq_false (by omega)
      go_wp2_with fail
      go_ret
      exact ⟨_, rfl, Or.inr ⟨rfl, fun m h => HNO.out m h (by omega)⟩, HB.out⟩

set_option maxHeartbeats 1000000 in
theorem indexOf_any (k : Nat) (l : List (ByteArray × Vl)) (v : Value) (s : ByteArray) (w : World) (hrow : Row w 0 2 32 (BrC w 0 k) l v) :
    Calls Try.prog 71 #[v, .string s] w fun e w' => ∃ r, e = .returned (.int .i64 r) ∧ IdxP l s r ∧ Below w.heap.size w w' := by
  obtain ⟨a, cap, rfl, hw, _⟩ := Row.len hrow
  have HR : Hid (∀ W, Keeps 0 w W → Row W 0 2 32 (BrC W 0 k) l (.slice a l.length cap)) := fun W h => hrow.keeps h (BrC.keeps h k)
  have HC : Hid (Calls Try.prog 90 #[.slice a l.length cap, .func (.func 91) #[] #[.pointer (some ⟨w.heap.size, 0, none⟩)]] (w.alloc (.cells #[.string s] 9)) fun e w' => ∃ r, e = .returned (.int .i64 r) ∧ IdxP l s r ∧ Below (w.alloc (.cells #[.string s] 9)).heap.size (w.alloc (.cells #[.string s] 9)) w') :=
    index_any k l _ s w.heap.size _ (HR.out _ ((Keeps.refl _ _).alloc _)) ((Owns.made w #[.string s] 9).cell 0)
  clear hrow
  go_enter Try.func71, Try.ntmps71
  go_wp2_with fail
  refine (Hid.out HC).mono ?_
  rintro e w1 ⟨r, rfl, hi, hb1⟩
  have HB : Hid (Below w.heap.size w w1) := ((Below.refl _ _).alloc (Nat.le_refl _) _).trans (hb1.mono (by simp))
  have HI : Hid (IdxP l s r) := hi
  clear hb1 hi
  go_wp2_with fail
  go_ret
  exact ⟨r, rfl, HI.out, HB.out⟩

/-- What is found by its place is found. -/
theorem idx_find : ∀ (ns : List ByteArray) (xs : List Vl) (s : ByteArray), ns.length = xs.length → ∀ r, IdxP (ns.zip xs) s r →
    (r = -1 ∧ findL ns xs s = none) ∨ ∃ (i : Nat) (h : i < (ns.zip xs).length), r = (i : Int) ∧ findL ns xs s = some (ns.zip xs)[i].2 := by
  intro ns xs s hl r h
  have hz : (ns.zip xs).length = ns.length := by simp [hl]
  have hmiss : ∀ (j : Nat), j ≤ ns.length → (∀ (m : Nat) (h : m < (ns.zip xs).length), m < j → ((ns.zip xs)[m].1.toList == s.toList) = false) → findL ns xs s = findL (ns.drop j) (xs.drop j) s := by
    intro j
    induction j with
    | zero => intro _ _; simp
    | succ j ih =>
      intro hj hn
      rw [ih (by omega) (fun m hm hmj => hn m hm (by omega))]
      have h1 := hn j (by omega) (by omega)
      rw [List.getElem_zip] at h1
      exact findL_miss (by omega) (by omega) h1
  rcases h with ⟨i, hi, rfl, he, hno⟩ | ⟨rfl, hno⟩
  · refine Or.inr ⟨i, hi, rfl, ?_⟩
    rw [hmiss i (by omega) hno]
    rw [List.getElem_zip] at he ⊢
    exact findL_hit (by omega) (by omega) he
  · refine Or.inl ⟨rfl, ?_⟩
    rw [hmiss ns.length (Nat.le_refl _) (fun m hm _ => hno m hm), List.drop_eq_nil_of_le (Nat.le_refl _)]
    simp [findL]

end Go.Proofs.Ytdaohfeajicamaa
