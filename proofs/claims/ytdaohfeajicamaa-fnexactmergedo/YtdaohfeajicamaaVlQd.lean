
/-
  DERIVED. VALUES IN MEMORY, their lists in blocks by which places may be compared. No walk.
-/
import Derived.Test.YtdaohfeajicamaaRepV
namespace Go.Proofs.Ytdaohfeajicamaa
open Go.RowKit
set_option linter.unusedVariables false
set_option linter.unusedSimpArgs false

/-- A value, at most k deep, in five cells; its lists lie in blocks by which addresses may be compared. -/
def VlQ (w : World) (base : Nat) : Nat → Vl → List Value → Prop
  | 0, _, _ => False
  | k + 1, t, cs => ∃ vl vn, cs = [.int .i64 t.kind, .int .i64 t.num, .string t.text, vl, vn] ∧ I64 t.kind ∧ I64 t.num ∧ t.text.size ≤ 140737488351232 ∧ Row w base 5 80 (VlQ w base k) t.list vl ∧ StrRow w base t.names vn ∧
      (t.list ≠ [] → ∃ a n c, vl = .slice (some a) n c ∧ ∃ cc e, w.heap[a.block]? = some (.cells cc e (0, 0)))

theorem VlQ.keeps {base : Nat} {w w' : World} (hk : Keeps base w w') : ∀ (k : Nat) (t : Vl) (cs : List Value), VlQ w base k t cs → VlQ w' base k t cs
  | 0, _, _, h => h.elim
  | k + 1, t, cs, ⟨vl, vn, h1, h2, h3, h4, h5, h6, h7⟩ => by
    refine ⟨vl, vn, h1, h2, h3, h4, h5.keeps hk (VlQ.keeps hk k), h6.keeps hk, fun hne => ?_⟩
    obtain ⟨a, n, c, rfl, cc, e, h⟩ := h7 hne
    obtain ⟨a', c', hv, _, hr⟩ := Row.len h5
    obtain ⟨b, off, ha, hb, _⟩ := hr hne
    simp only [Value.slice.injEq] at hv
    rw [← hv.1] at ha
    simp only [Option.some.injEq] at ha
    subst ha
    refine ⟨_, n, c, rfl, cc, e, ?_⟩
    have hlt : b < w.heap.size := by
      by_cases hx : b < w.heap.size
      · exact hx
      · simp only at h; rw [Array.getElem?_eq_none (by omega)] at h; simp at h
    rw [hk.block b hb hlt]; exact h
theorem VlQ.base {base base' : Nat} {w : World} (hb : base' ≤ base) : ∀ (k : Nat) (t : Vl) (cs : List Value), VlQ w base k t cs → VlQ w base' k t cs
  | 0, _, _, h => h.elim
  | k + 1, t, cs, ⟨vl, vn, h1, h2, h3, h4, h5, h6, h7⟩ => ⟨vl, vn, h1, h2, h3, h4, h5.base hb (VlQ.base hb k), h6.base hb, h7⟩
theorem VlQ.succ {w : World} {base : Nat} : ∀ (k : Nat) (t : Vl) (cs : List Value), VlQ w base k t cs → VlQ w base (k + 1) t cs
  | 0, _, _, h => h.elim
  | k + 1, t, cs, ⟨vl, vn, h1, h2, h3, h4, h5, h6, h7⟩ => ⟨vl, vn, h1, h2, h3, h4, h5.imp (VlQ.succ k), h6, h7⟩
theorem VlQ.le {w : World} {base k k' : Nat} (h : k ≤ k') {t : Vl} {cs : List Value} (ht : VlQ w base k t cs) : VlQ w base k' t cs := by
  induction h with
  | refl => exact ht
  | step _ ih => exact VlQ.succ _ _ _ ih
theorem VlQ.read {w : World} {base : Nat} : ∀ (k : Nat) (t : Vl) (cs : List Value), VlQ w base k t cs → VlR w base k t cs
  | 0, _, _, h => h.elim
  | k + 1, t, cs, ⟨vl, vn, h1, h2, h3, h4, h5, h6, h7⟩ => ⟨vl, vn, h1, h2, h3, h4, h5.imp (VlQ.read k), h6⟩

/-- It is so wherever the blocks from lo up to hi are as they are. -/
def VlJ (w : World) (lo hi k : Nat) (t : Vl) (cs : List Value) : Prop := ∀ W : World, (∀ b, lo ≤ b → b < hi → W.heap[b]? = w.heap[b]?) → VlQ W lo k t cs
theorem VlJ.same {w w' : World} {lo hi k : Nat} {t : Vl} {cs : List Value} (h : VlJ w lo hi k t cs) (hs : ∀ b, lo ≤ b → b < hi → w'.heap[b]? = w.heap[b]?) : VlJ w' lo hi k t cs :=
  fun W hW => h W (fun b h1 h2 => (hW b h1 h2).trans (hs b h1 h2))
theorem VlJ.now {w : World} {lo hi k : Nat} {t : Vl} {cs : List Value} (h : VlJ w lo hi k t cs) : VlQ w lo k t cs := h w (fun _ _ _ => rfl)
theorem VlJ.wide {w : World} {lo hi lo' hi' k : Nat} {t : Vl} {cs : List Value} (h : VlJ w lo hi k t cs) (h1 : lo' ≤ lo) (h2 : hi ≤ hi') : VlJ w lo' hi' k t cs :=
  fun W hW => VlQ.base h1 _ _ _ (h W (fun b h3 h4 => hW b (by omega) (by omega)))
theorem VlJ.le {w : World} {lo hi k k' : Nat} {t : Vl} {cs : List Value} (h : VlJ w lo hi k t cs) (hk : k ≤ k') : VlJ w lo hi k' t cs := fun W hW => VlQ.le hk (h W hW)

end Go.Proofs.Ytdaohfeajicamaa
