
/-
  DERIVED. THE WALKS OF slices.Index and slices.Contains over texts, impl.namesOnce.
-/
import Derived.Test.YtdaohfeajicamaaNames
import Derived.Test.YtdaohfeajicamaaRepV
import Derived.Test.YtdaohfeajicamaaPlainV
namespace Go.Proofs.Ytdaohfeajicamaa
open Go.RowKit
set_option linter.unusedVariables false
set_option linter.unusedSimpArgs false

theorem StrRow.take {w : World} {base : Nat} {l : List ByteArray} {a : Option Addr} {cap m : Nat} (h : StrRow w base l (.slice a l.length cap)) (hm : m ≤ l.length) (ha : l ≠ []) : StrRow w base (l.take m) (.slice a m cap) := by
  rcases h with ⟨_, h1⟩ | ⟨a', cap', h1, h2, h3, h4, h5⟩
  · exact absurd h1 ha
  · simp only [Value.slice.injEq] at h1
    obtain ⟨rfl, _, rfl⟩ := h1
    have hl : (l.take m).length = m := by rw [List.length_take]; omega
    refine Or.inr ⟨a', cap, by rw [hl], by rw [hl]; omega, h3, by rw [hl]; omega, fun i hi => ?_⟩
    rw [hl] at hi
    obtain ⟨x1, x2, cs, x3, x4, x5⟩ := h5 i (by omega)
    exact ⟨x1, x2, cs, x3, x4, by simpa using x5⟩

set_option maxHeartbeats 400000 in
theorem slicesIndex_any (l : List ByteArray) (v : Value) (s : ByteArray) (w : World) (hrow : StrRow w 0 l v) :
    Calls Try.prog 113 #[v, .string s] w fun e w' => ∃ r : Int, e = .returned (.int .i64 r) ∧ decide (0 ≤ r) = hasB l s ∧ w' = w := by
  obtain ⟨a, cap, rfl, hw, hrest⟩ := hrow.len
  have hlen : (l.length : Int) ≤ 140737488351232 := by omega
  clear hrow
  go_enter Try.func113, Try.ntmps113
  go_wp2_with fail
  go_loop [5, 8] (fun _ i => ∃ j : Nat, j ≤ l.length ∧ i = .int .i64 j ∧ Hid (hasB (l.take j) s = false)) (fun _ i => l.length - (intOf i).toNat)
  case atStart => exact ⟨0, Nat.zero_le _, rfl, rfl⟩
  case round =>
    obtain ⟨j, hj, rfl, HH⟩ := hrel
    by_cases hlt : j < l.length
    · obtain ⟨b, off, rfl, _, hcs⟩ := hrest (List.ne_nil_of_length_pos (by omega))
      obtain ⟨c0, hs⟩ := hcs j hlt
      have hsym : (s.toList == l[j].toList) = (l[j].toList == s.toList) := Bool.beq_comm
      have HSy : Hid ((s.toList == l[j].toList) = (l[j].toList == s.toList)) := hsym
      clear hcs hrest hsym
      cases he : (s.toList == l[j].toList)
      · have HN : Hid (hasB (l.take (j + 1)) s = false) := by show _ = _; rw [hasB_snoc hlt, HH.out, ← HSy.out, he]; rfl
        clear HH HSy
        go_wp2_with fail
        exact ⟨⟨j + 1, by omega, by go_num, HN⟩, by simp [intOf]; omega⟩
      · have hfin : Hid (hasB l s = true) := by
          have h1 := hasB_at (l := l) (m := j) (j := l.length) hlt hlt (s := s) (HSy.out.symm.trans he)
          rw [List.take_of_length_le (Nat.le_refl _)] at h1
          exact h1
        clear HH HSy
        go_wp2_with fail
        go_ret
        exact ⟨_, rfl, by rw [hfin.out]; simp, rfl⟩
    · obtain rfl : j = l.length := by omega
      have hfin : Hid (hasB l s = false) := by
        have h1 := HH.out
        rw [List.take_of_length_le (Nat.le_refl _)] at h1
        exact h1
      clear HH
      go_wp2_with fail
      go_ret
      exact ⟨_, rfl, by rw [hfin.out]; rfl, rfl⟩

set_option maxHeartbeats 400000 in
theorem slicesContains_any (l : List ByteArray) (v : Value) (s : ByteArray) (w : World) (hrow : StrRow w 0 l v) :
    Calls Try.prog 99 #[v, .string s] w fun e w' => e = .returned (.bool (hasB l s)) ∧ w' = w := by
  have HR : Hid (StrRow w 0 l v) := hrow
  clear hrow
  go_enter Try.func99, Try.ntmps99
  go_wp2_with fail
  refine (slicesIndex_any l v s _ HR.out).mono ?_
  rintro e w1 ⟨r, rfl, hr, rfl⟩
  have Hr : Hid (decide (0 ≤ r) = hasB l s) := hr
  clear hr
  go_wp2_with fail
  go_ret
  exact ⟨ret_bool Hr.out, rfl⟩

set_option maxHeartbeats 1000000 in
theorem namesOnce_any (l : List ByteArray) (v : Value) (w : World) (hrow : StrRow w 0 l v) :
    Calls Try.prog 80 #[v] w fun e w' => e = .returned (.bool (onceB [] l)) ∧ w' = w := by
  obtain ⟨a, cap, rfl, hw, hrest⟩ := hrow.len
  have hlen : (l.length : Int) ≤ 140737488351232 := by omega
  have hcap : l ≠ [] → l.length ≤ cap := fun hne => by
    rcases hrow with ⟨_, h1⟩ | ⟨a', cap', h1, h2, _⟩
    · exact absurd h1 hne
    · simp only [Value.slice.injEq] at h1
      rw [h1.2.2]; exact h2
  have HT : Hid (∀ m, m ≤ l.length → l ≠ [] → StrRow w 0 (l.take m) (.slice a m cap)) := fun m h1 h2 => hrow.take h1 h2
  clear hrow
  go_enter Try.func80, Try.ntmps80
  go_wp2_with fail
  go_loop [3, 4, 7] (fun _ _ i => ∃ j : Nat, j ≤ l.length ∧ i = .int .i64 j ∧ Hid (onceB [] l = onceB (l.take j) (l.drop j))) (fun _ _ i => l.length - (intOf i).toNat)
  case atStart => exact ⟨0, Nat.zero_le _, rfl, onceB_start l⟩
  case round =>
    obtain ⟨j, hj, rfl, HO⟩ := hrel
    by_cases hlt : j < l.length
    · have hne : l ≠ [] := List.ne_nil_of_length_pos (by omega)
      have hc := hcap hne
      have HT1 : Hid (StrRow w 0 (l.take j) (.slice a j cap)) := HT.out j hj hne
      obtain ⟨b, off, rfl, _, hcs⟩ := hrest hne
      have HD : Hid (onceB [] l = (nameB l[j].data.toList && !hasB (l.take j) l[j] && onceB (l.take (j + 1)) (l.drop (j + 1)))) := HO.out.trans (onceB_drop hlt)
      obtain ⟨c0, hs⟩ := hcs j hlt
      clear hcs hrest HO hcap hne HT
      cases hnm : nameB l[j].data.toList
      · have hfin : Hid (onceB [] l = false) := by show _ = _; rw [HD.out, hnm]; rfl
        clear HD HT1
        go_wp2_with (go_at_call 60; refine (isName_any _ _ (by unfold maxLen; omega)).mono ?_; rintro e w1 ⟨rfl, rfl⟩)
        go_ret
        exact ⟨ret_bool hfin.out.symm, rfl⟩
      · rw [hnm, Bool.true_and] at HD
        go_wp2_with fail
        refine (isName_any _ _ (by unfold maxLen; omega)).mono ?_
        rintro e w1 ⟨rfl, rfl⟩
        rw [hnm]
        go_wp2_with fail
        refine (slicesContains_any _ _ _ _ HT1.out).mono ?_
        rintro e w2 ⟨rfl, rfl⟩
        cases hh : hasB (l.take j) l[j]
        · have HN : Hid (onceB [] l = onceB (l.take (j + 1)) (l.drop (j + 1))) := by show _ = _; rw [HD.out, hh]; rfl
          clear HD HT1
          go_wp2_with fail
          exact ⟨⟨j + 1, by omega, by go_num, HN⟩, by simp [intOf]; omega⟩
        · have hfin : Hid (onceB [] l = false) := by show _ = _; rw [HD.out, hh]; rfl
          clear HD HT1
          go_wp2_with fail
          go_ret
          exact ⟨ret_bool hfin.out.symm, rfl⟩
    · obtain rfl : j = l.length := by omega
      have hfin : Hid (onceB [] l = true) := HO.out.trans (onceB_end l)
      clear HO HT hcap
      go_wp2_with fail
      go_ret
      exact ⟨ret_bool hfin.out.symm, rfl⟩

end Go.Proofs.Ytdaohfeajicamaa
