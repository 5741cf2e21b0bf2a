
/-
  DERIVED. THE WALK OF treeForm.value() of forms.
-/
import Derived.Test.YtdaohfeajicamaaFmTrV
namespace Go.Proofs.Ytdaohfeajicamaa
open Go.RowKit
set_option linter.unusedVariables false
set_option linter.unusedSimpArgs false

theorem mth_leads {k : Nat} {w : World} {base : Nat} {t : Vl} {T : TypeId} {x : Value} (hR : FmR w base k t (.iface T x)) :
    (∀ W, Sem.run Try.prog (method 268 T x "loop.example/pergola/impl.value") W = .ok (mth T, x) W) ∧ (∀ W, Sem.run Try.prog (callFunc (mth T) #[x]) W = .ok (.enter (mth T) #[x]) W) := by
  cases k with
  | zero => exact hR.elim
  | succ k =>
    rcases hR with ⟨_, h⟩ | ⟨_, h⟩ | ⟨_, h⟩ | ⟨_, h⟩ | ⟨_, vl, h, _⟩ | ⟨_, _, vl, h, _⟩ | ⟨_, h⟩ | ⟨_, h⟩
    all_goals
      simp only [Value.iface.injEq] at h
      obtain ⟨rfl, -⟩ := h
      exact ⟨fun W => by kernel_rfl, fun W => by kernel_rfl⟩

theorem Row.imp_mem {base n wide : Nat} {w : World} {α : Type} {R R' : α → List Value → Prop} {l : List α} {v : Value} (hR : ∀ x cs, x ∈ l → R x cs → R' x cs) (h : Row w base n wide R l v) : Row w base n wide R' l v := by
  rcases h with h | ⟨a, cap, rfl, h1, h2, h3, h4⟩
  · exact Or.inl h
  · refine Or.inr ⟨a, cap, rfl, h1, h2, h3, fun i hi => ?_⟩
    obtain ⟨hb, hs, cs, hl, hc, hr⟩ := h4 i hi
    exact ⟨hb, hs, cs, hl, hc, hR _ _ (List.getElem_mem hi) hr⟩

theorem valT_step (k : Nat) (ih : ValC k) : ValTC k := by
  intro t v w h0 ho hnl hrow
  obtain ⟨hnum, htx, hl12, hoks⟩ := fm_tree_mem h0 ho
  refine valT_fm k t v w h0 ho hnl (Row.imp_mem ?_ hrow)
  rintro ⟨s, x⟩ cs hmem ⟨f, rfl, hR⟩
  obtain ⟨T, y, rfl⟩ := FmR.iface hR
  refine ⟨T, y, mth T, rfl, mth_leads hR, fun W h => ih _ _ _ _ (FmR.keeps h _ _ _ hR) ?_⟩
  obtain ⟨j, hj, he⟩ := List.getElem_of_mem (List.of_mem_zip hmem).2
  rw [← he]
  exact hoks j hj

end Go.Proofs.Ytdaohfeajicamaa
