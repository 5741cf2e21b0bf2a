
/-
  DERIVED. THE WALKS OF slices.Index and slices.Contains over texts, impl.namesOnce.
-/
import Derived.Test.YtaklmcmcgeebiaaNames
import Derived.Test.YtaklmcmcgeebiaaRepV
import Derived.Test.YtaklmcmcgeebiaaPlainV
namespace Go.Proofs.Ytaklmcmcgeebiaa
open Go.RowKit
set_option linter.unusedVariables false
set_option linter.unusedSimpArgs false

theorem StrRow.take {w : World} {base : Nat} {l : List ByteArray} {a : Option Addr} {cap m : Nat} (h : StrRow w base l (.slice a l.length cap)) (hm : m ≤ l.length) (ha : l ≠ []) : StrRow w base (l.take m) (.slice a m cap) := by
  rcases h with ⟨_, h1⟩ | ⟨a', cap', h1, h2, h3, h4, h5⟩
  · exact absurd h1 ha
  · simp only [Value.slice.injEq] at h1
    obtain ⟨rfl, _, rfl⟩ := h1
    have hl : (l.take m).length = m := by rw [List.length_take]; omega
    refine Or.inr ⟨a', cap, by rw [hl], by rw [hl]; omega, h3, by rw [hl]; omega, fun i hi => ?_⟩
    rw [hl] at hi
    obtain ⟨x1, x2, cs, x3, x4, x5⟩ := h5 i (by omega)
    exact ⟨x1, x2, cs, x3, x4, by simpa using x5⟩

end Go.Proofs.Ytaklmcmcgeebiaa
