
/-
  DERIVED. A region that draws its order, whose last operation waits for all others: what is held need not be held behind that one.
-/
import Derived.StillTail
import Derived.Deep.RegionHeld3
namespace Go.Proofs.Ytdaohfeajicamaa
open Go

section
variable {P : Program} {ops : Array Oper} {Q : Exit → Act → World → Prop} {md : Region.Mode} {S : World → Prop}

/-- Behind all the others the last one is carried out. -/
def LastQ (P : Program) (o : Oper) (Q : Exit → Act → World → Prop) : Exit → Act → World → Prop
  | .normal, a, w => ∀ K : Act → World → Prop, (∀ a w, Q .normal a w → K a w) → Oper.wp P o a w K Q
  | .exit i, a, w => Q (.exit i) a w
  | .goto i, a, w => Q (.goto i) a w
  | .ret, a, w => Q .ret a w
  | .panic c, a, w => Q (.panic c) a w
  | .outgrown, a, w => Q .outgrown a w

theorem Oper.wp_lastQ {o1 o : Oper} {a : Act} {w : World} {K : Act → World → Prop} (h : Oper.wp P o1 a w K (LastQ P o Q)) : Oper.wp P o1 a w K Q := by
  unfold Oper.wp at *
  generalize (execOp a.eval o1).run P w = r at *
  cases r with
  | ok n w' =>
    cases n <;> simp only [Oper.upon] at h ⊢ <;> first | exact h | exact Calls.mono h (fun e w'' he => by cases e <;> exact he)
  | halt x w' => cases x <;> simp only [Oper.upon] at h ⊢ <;> exact h
theorem letsOut_lastQ {o : Oper} (h : LetsOut (LastQ P o Q)) : LetsOut Q := h
theorem wpOp_lastQ {o : Oper} {i : Nat} {K : Act → World → Prop} {a : Act} {w : World} (h : wpOp P ops (LastQ P o Q) i K a w) : wpOp P ops Q i K a w := by
  unfold wpOp at *
  split
  · rename_i he
    simpa [he] using h
  · rename_i o1 he
    simp only [he] at h
    split
    · rename_i hw
      simp only [hw, if_true] at h
      exact h.imp Oper.wp_lastQ (fun h => ⟨h.1, letsOut_lastQ h.2⟩)
    · rename_i hw
      simp only [hw] at h
      exact h

/-- Each operation waits for earlier ones alone. -/
def onwardB (ops : Array Oper) : Bool := (List.range ops.size).all fun i => match ops[i]? with
  | some o => o.after.all fun e => decide (e.on < i)
  | none => true

theorem ready_some (ho : onwardB ops = true) {listed : Array Bool} (hz : listed.size = ops.size) : ∀ (n : Nat), n < ops.size → listed.getD n true = false → ∃ i, i ∈ Region.ready md ops listed := by
  intro n
  induction n using Nat.strongRecOn with
  | _ n ih =>
    intro hn hu
    by_cases hr : n ∈ Region.ready md ops listed
    · exact ⟨n, hr⟩
    · rw [mem_ready] at hr
      have h1 := List.all_eq_true.1 ho n (List.mem_range.2 hn)
      rw [Array.getElem?_eq_getElem hn] at h1
      have h2 : ∃ e ∈ (ops[n]).after, Region.binds md e = true ∧ listed.getD e.on false = false := by
        refine Classical.byContradiction fun hno => hr ⟨hu, ops[n], Array.getElem?_eq_getElem hn, fun e he hb => ?_⟩
        cases hl : listed.getD e.on false with
        | true => rfl
        | false => exact absurd ⟨e, he, hb, hl⟩ hno
      obtain ⟨e, he, _, hl⟩ := h2
      have h3 : e.on < n := by
        simp only [Array.all_eq_true'] at h1
        exact of_decide_eq_true (h1 e he)
      exact ih e.on h3 (by omega) (getD_in (by omega) hl)

theorem all_in {n : Nat} (hs : Region.sinkB md ops n = true) (hc : Region.chainB md ops n = true) (hz : ops.size = n + 1) {listed : Array Bool} (inv : HeadInv md ops n listed) (hn : n ∈ Region.ready md ops listed) :
    Region.ready md ops (listed.setIfInBounds n true) = [] := by
  refine List.eq_nil_iff_forall_not_mem.2 fun j hj => ?_
  obtain ⟨h0, oj, hoj, _⟩ := mem_ready.1 hj
  have hjl : j < ops.size := (Array.getElem?_eq_some_iff.1 hoj).1
  by_cases hjn : n = j
  · subst hjn
    have : n < listed.size := by rw [inv.size]; omega
    simp [this] at h0
  · rw [getD_set_ne true hjn] at h0
    exact tail_waits hs hc (by omega) inv (n - j) j rfl (by omega) h0 n (Nat.le_refl _) hn

theorem wpAny_last {n : Nat} {o : Oper} (ho : ops[n]? = some o) (hg : o.guard = none) (hs : Region.sinkB md ops n = true) (hc : Region.chainB md ops n = true) (hw : onwardB ops = true) (hz : ops.size = n + 1) :
    ∀ (fuel : Nat) (listed : Array Bool) (a : Act) (w : World), HeadInv md ops n listed → wpAnyH P md ops (LastQ P o Q) S fuel (listed.setIfInBounds n true) a w → wpAny P md ops Q (fuel + 1) listed a w := by
  have hlast : ∀ (fuel : Nat) (listed : Array Bool) (a : Act) (w : World), HeadInv md ops n listed → n ∈ Region.ready md ops listed → LastQ P o Q .normal a w → wpOp P ops Q n (wpAny P md ops Q fuel (listed.setIfInBounds n true)) a w := by
    intro fuel listed a w inv hn h
    have hr := all_in hs hc hz inv hn
    unfold wpOp
    simp only [ho]
    rw [if_pos (by simp [Region.wanted, hg])]
    refine Or.inl (h _ fun a w hq => ?_)
    cases fuel with
    | zero => exact ⟨hr, hq⟩
    | succ f => exact ⟨fun _ => hq, by rw [hr]; simp⟩
  have hne : ∀ (listed : Array Bool), HeadInv md ops n listed → Region.ready md ops listed = [] → False := fun listed inv h => by
    obtain ⟨i, hi⟩ := ready_some (md := md) hw inv.size n (by omega) (inv.tail n (Nat.le_refl _) (by omega))
    rw [h] at hi
    cases hi
  intro fuel
  induction fuel with
  | zero =>
    intro listed a w inv h
    obtain ⟨hr, hq⟩ := h
    refine ⟨fun h0 => (hne listed inv h0).elim, fun i hi => ?_⟩
    by_cases hin : i = n
    · subst hin
      exact hlast 0 listed a w inv hi hq
    · have := ready_mono hi hin
      rw [hr] at this
      cases this
  | succ fuel ih =>
    intro listed a w inv h
    refine ⟨fun h0 => (hne listed inv h0).elim, fun i hi => ?_⟩
    by_cases hin : i = n
    · subst hin
      exact hlast _ listed a w inv hi (h.1 (all_in hs hc hz inv hi))
    · have hil : i < n := by
        obtain ⟨_, oi, hoi, _⟩ := mem_ready.1 hi
        have := (Array.getElem?_eq_some_iff.1 hoi).1
        omega
      refine wpOp_mono (fun a' w' h' => ih _ a' w' (inv.set hi hil) ?_) (wpOp_lastQ (h.2 i (ready_mono hi hin)))
      rw [Array.setIfInBounds_comm _ _ hin]
      exact h'.2

/-- The region, and what is held up to its last operation. -/
theorem wp_region_last {id : Nat} {a : Act} {w : World} (n : Nat) (o : Oper) (ho : ops[n]? = some o) (S : World → Prop) (hm : P.follows .mixedOrders = true) (hg : o.guard = none)
    (hs : (Region.sinkB .any ops n && Region.chainB .any ops n && onwardB ops && decide (ops.size = n + 1)) = true) (hS : S w.drew)
    (h : S w.drew → wpAnyH P .any ops (LastQ P o Q) S n ((Array.replicate ops.size false).setIfInBounds n true) a w.drew) : (Code.region id ops true).wp P Q a w := by
  simp only [Bool.and_eq_true, decide_eq_true_eq] at hs
  obtain ⟨⟨⟨h1, h2⟩, h3⟩, h4⟩ := hs
  refine wp_region_any hm ?_
  have inv : HeadInv .any ops n (Array.replicate ops.size false) := by
    refine ⟨by simp, fun j oj hj hl e he hb => ?_, fun t ht ht' => by simp [ht']⟩
    rw [getD_replicate_false] at hl
    cases hl
  have := wpAny_last (S := S) ho hg h1 h2 h3 h4 n _ a w.drew inv (h hS)
  rw [h4] at *
  exact this
end

end Go.Proofs.Ytdaohfeajicamaa
