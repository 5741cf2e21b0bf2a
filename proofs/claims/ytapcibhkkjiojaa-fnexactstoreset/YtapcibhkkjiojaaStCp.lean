
/-
  DERIVED. THE WALK OF spec.l5Copy: nodes that read as the same, each with its memory apart.
-/
import Derived.Test.YtapcibhkkjiojaaRepN
import Derived.Test.YtapcibhkkjiojaaVlCopyW
import Derived.Deep.Cut
namespace Go.Proofs.Ytapcibhkkjiojaa
open Go.RowKit
set_option linter.unusedVariables false
set_option linter.unusedSimpArgs false

/-- What is known while the nodes are copied: the i-th lies from lo i up to hi i. -/
structure CopyingN (k : Nat) (l : List Nd) (w wr : World) (oa : Option Addr) (oc j : Nat) (xs : List Value) (lo hi : Nat → Nat) : Prop where
  own : wr.ownsRow w.heap.size 49 7 (.slice oa j oc) j xs
  kids : ∀ (i : Nat) (h : i < l.length), i < j → ∃ vl vn, (∀ q, q < 7 → xs[i * 7 + q]? = [Value.int .i64 l[i].id, .string l[i].type, .int .i64 l[i].cells.kind, .int .i64 l[i].cells.num, .string l[i].cells.text, vl, vn][q]?) ∧ w.heap.size ≤ lo i ∧ hi i ≤ wr.heap.size ∧
    VlI wr (lo i) (hi i) (k + 1) l[i].cells [.int .i64 l[i].cells.kind, .int .i64 l[i].cells.num, .string l[i].cells.text, vl, vn] ∧ Top wr (lo i + 3) (hi i) k l[i].cells vl vn ∧ (∀ g, (Value.slice oa j oc).ownBlock = some g → g < lo i ∨ hi i ≤ g)
  apart : ∀ i i', i < i' → i' < j → hi i ≤ lo i'
  below : Below w.heap.size w wr

theorem xs_step7 {xs news : List Value} {j i q : Nat} (hx : xs.length = j * 7) (hi : i < j) (hq : q < 7) : (xs ++ news)[i * 7 + q]? = xs[i * 7 + q]? := by
  rw [List.getElem?_append_left (by omega)]
theorem xs_new7 {xs news : List Value} {j q : Nat} (hx : xs.length = j * 7) : (xs ++ news)[j * 7 + q]? = news[q]? := by
  rw [List.getElem?_append_right (by omega)]; congr 1; omega

theorem CopyingN.far {k : Nat} {l : List Nd} {w wr : World} {oa : Option Addr} {oc j : Nat} {xs : List Value} {lo hi : Nat → Nat} (h : CopyingN k l w wr oa oc j xs lo hi) {b : Nat} (hb : b < w.heap.size) : some b ≠ (Value.slice oa j oc).ownBlock := by
  intro he
  have := (h.own.lt b he.symm).1
  omega

theorem CopyingN.step {k : Nat} {l : List Nd} {w wr w1 w2 : World} {oa : Option Addr} {oc j g cap : Nat} {xs : List Value} {lo hi : Nat → Nat} {o : Obj} {vl vn : Value} (h : CopyingN k l w wr oa oc j xs lo hi) (hj : j < l.length)
    (hb1 : Below wr.heap.size wr w1) (hI : VlI w1 wr.heap.size w1.heap.size (k + 1) l[j].cells [.int .i64 l[j].cells.kind, .int .i64 l[j].cells.num, .string l[j].cells.text, vl, vn]) (hT : Top w1 (wr.heap.size + 3) w1.heap.size k l[j].cells vl vn)
    (hown : w2.ownsRow w.heap.size 49 7 (.slice (some ⟨g, 0, none⟩) (j + 1) cap) (j + 1) (xs ++ [.int .i64 l[j].id, .string l[j].type, .int .i64 l[j].cells.kind, .int .i64 l[j].cells.num, .string l[j].cells.text, vl, vn]))
    (hg : (w1.alloc o).grownBy w2 (Value.slice oa j oc).ownBlock) (hat : (Value.slice oa j oc).ownBlock = some g ∨ g = w1.heap.size + 1) :
    ∃ lo' hi', CopyingN k l w w2 (some ⟨g, 0, none⟩) cap (j + 1) (xs ++ [.int .i64 l[j].id, .string l[j].type, .int .i64 l[j].cells.kind, .int .i64 l[j].cells.num, .string l[j].cells.text, vl, vn]) lo' hi' := by
  have hxl := h.own.1
  have hs1 := hb1.size
  have hs2 := hg.size
  have hsz := h.below.size
  simp at hs2
  have hsame : ∀ b, b < wr.heap.size → some b ≠ (Value.slice oa j oc).ownBlock → w2.heap[b]? = wr.heap[b]? := fun b h1 h3 => by
    rw [hg.block b (by simp; omega) h3, Below.heap_alloc _ _ _ (by omega), hb1.block b h1]
  have hnew : ∀ b, wr.heap.size ≤ b → b < w1.heap.size → w2.heap[b]? = w1.heap[b]? := fun b c1 c2 => by
    rw [hg.block b (by simp; omega) (fun he => by have := (h.own.lt b he.symm).2; omega), Below.heap_alloc _ _ _ (by omega)]
  have hgo : ∀ g', (Value.slice (some ⟨g, 0, none⟩) (j + 1) cap).ownBlock = some g' → g' = g := fun g' h => by simp [Value.ownBlock] at h; exact h.symm
  refine ⟨fun i => if i = j then wr.heap.size else lo i, fun i => if i = j then w1.heap.size else hi i, hown, fun i hi' hij => ?_, fun i i' h1 h2 => ?_, ?_⟩
  · rcases Nat.lt_succ_iff_lt_or_eq.1 hij with hlt | rfl
    · obtain ⟨vl', vn', b2, b3, b4, b5, b6, b7⟩ := h.kids i hi' hlt
      simp only [if_neg (Nat.ne_of_lt hlt)]
      have hsm : ∀ b, lo i ≤ b → b < hi i → w2.heap[b]? = wr.heap[b]? := fun b c1 c2 => hsame b (by omega) (fun he => by have := b7 b he.symm; omega)
      refine ⟨vl', vn', fun q hq => by rw [xs_step7 hxl hlt hq]; exact b2 q hq, b3, by omega, b5.same hsm, b6.same (fun b c1 c2 => hsm b (by omega) c2), fun g' hg' => ?_⟩
      have := hgo g' hg'
      subst this
      rcases hat with hat | hat
      · exact b7 _ hat
      · omega
    · simp only [if_true]
      refine ⟨vl, vn, fun q hq => xs_new7 hxl, hsz, by omega, hI.same hnew, hT.same (fun b c1 c2 => hnew b (by omega) c2), fun g' hg' => ?_⟩
      have := hgo g' hg'
      subst this
      rcases hat with hat | hat
      · have := (h.own.lt _ hat).2; omega
      · omega
  · rcases Nat.lt_succ_iff_lt_or_eq.1 h2 with hlt | rfl
    · rw [if_neg (by omega), if_neg (by omega)]
      exact h.apart i i' h1 hlt
    · rw [if_neg (by omega), if_pos rfl]
      obtain ⟨_, _, _, _, b4, _⟩ := h.kids i (by omega) h1
      exact b4
  · refine ⟨hg.os.trans (hb1.os.trans h.below.os), hg.tape.trans (hb1.tape.trans h.below.tape), hg.output.trans (hb1.output.trans h.below.output), by omega, fun b hb => ?_⟩
    rw [hsame b (by omega) (h.far hb), h.below.block b hb]

set_option maxHeartbeats 4000000 in
theorem l5Copy_any (k : Nat) (l : List Nd) (v : Value) (w : World) (hrow : NdRow w 0 (k + 1) l v) :
    Calls Try.prog 37 #[v] w fun e w' => ∃ oa oc xs lo hi, e = .returned (.slice oa l.length oc) ∧ CopyingN k l w w' oa oc l.length xs lo hi := by
  obtain ⟨a, cap, rfl, hw, hrest⟩ := Row.len hrow
  have hlen : (l.length : Int) ≤ 140737488351232 := by omega
  obtain ⟨i0, hi0, hz0, hz1, hz2⟩ := info_impl_Node
  have HR : Hid _ := hrest
  have HW : Hid (l.length * 104 ≤ 140737488351232) := hw
  clear hrow hrest
  go_enter Try.func37, Try.ntmps37
  go_wp2_with fail
  go_loopw [3, 4] (fun o i wr => ∃ (j : Nat) (oa : Option Addr) (oc : Nat) (xs : List Value) (lo hi : Nat → Nat), j ≤ l.length ∧ o = .slice oa j oc ∧ i = .int .i64 j ∧ Hid (CopyingN k l w wr oa oc j xs lo hi)) (fun o i _ => l.length - (intOf i).toNat)
  case atStart =>
    refine ⟨0, some ⟨w.heap.size, 0, none⟩, 0, [], fun _ => 0, fun _ => 0, Nat.zero_le _, rfl, rfl, ⟨⟨rfl, Or.inr ⟨w.heap.size, 0, #[], rfl, Nat.le_refl _, alloc_atC _ _, Nat.le_refl _, Nat.zero_le _, rfl, rfl⟩⟩, fun i _ h => absurd h (Nat.not_lt_zero _), fun _ i' _ h => absurd h (Nat.not_lt_zero _), (Below.refl _ _).alloc (Nat.le_refl _) _⟩⟩
  case round =>
    obtain ⟨j, oa, oc, xs, lo, hi, hj, rfl, rfl, HC⟩ := hrel
    by_cases hlt : j < l.length
    · obtain ⟨b, off, hab, _, hcs⟩ := HR.out (List.ne_nil_of_length_pos (by omega))
      subst hab
      obtain ⟨cs, hl7, hc, hR⟩ := hcs j hlt
      obtain ⟨p, n, p', n', rfl⟩ := hR.cells
      have hk : Keeps 0 w wr := Keeps.of_below HC.out.below (Nat.le_refl _) _
      have hbw : b < w.heap.size := cell_lt (hc 0 (by simp))
      obtain ⟨c0, c1, c2, c3, c4, c5, c6⟩ := (hc.keeps hk (Nat.zero_le _)).seven
      have hszr := HC.out.below.size
      have HCALL : Hid (Calls Try.prog 39 #[.agg #[.int .i64 l[j].cells.kind, .int .i64 l[j].cells.num, .string l[j].cells.text, .slice p l[j].cells.list.length n, .slice p' l[j].cells.names.length n']] wr.drew (fun e w1 => ∃ p1 n1 p1' n1',
          e = .returned (.agg #[.int .i64 l[j].cells.kind, .int .i64 l[j].cells.num, .string l[j].cells.text, .slice p1 l[j].cells.list.length n1, .slice p1' l[j].cells.names.length n1']) ∧
          w1.cell? ⟨b, off + j * 7, none⟩ = some (.int .i64 l[j].id) ∧ w1.cell? ⟨b, off + j * 7 + 1, none⟩ = some (.string l[j].type) ∧
          w.heap.size ≤ w1.heap.size ∧ Hid (w1.ownsRow w.heap.size 49 7 (.slice oa j oc) j xs) ∧ Hid (Below wr.heap.size wr w1) ∧
          Hid (VlI w1 wr.heap.size w1.heap.size (k + 1) l[j].cells [.int .i64 l[j].cells.kind, .int .i64 l[j].cells.num, .string l[j].cells.text, .slice p1 l[j].cells.list.length n1, .slice p1' l[j].cells.names.length n1']) ∧ Hid (Top w1 (wr.heap.size + 3) w1.heap.size k l[j].cells (.slice p1 l[j].cells.list.length n1) (.slice p1' l[j].cells.names.length n1')))) := by
        obtain ⟨_, _, hv0, _, _, hRc⟩ := NdR.keeps hk _ _ _ hR
        simp only [List.cons.injEq, true_and, and_true] at hv0
        obtain ⟨rfl, rfl⟩ := hv0
        refine (copyT_all k l[j].cells _ _ wr.drew (VlR.keeps (Keeps.refl 0 wr).drew _ _ _ hRc)).mono ?_
        rintro e w1 ⟨vl', vn', rfl, hI, hb1, hT⟩
        obtain ⟨p1, n1, p1', n1', rfl, rfl⟩ := hI.slices
        have hb1' : Below wr.heap.size wr w1 := ((Below.refl _ wr).drew).trans hb1
        refine ⟨p1, n1, p1', n1', rfl, cell_on hb1' c0, cell_on hb1' c1, Nat.le_trans hszr hb1'.size, ?_, hb1', hI, hT⟩
        have hrow : wr.grownBy w1 none := ⟨hb1'.os, hb1'.tape, hb1'.output, hb1'.size, fun q hq _ => hb1'.block q hq⟩
        exact HC.out.own.kept (row := none) hrow (by cases h : (Value.slice oa j oc).ownBlock <;> simp)
      clear hc hR hcs hk HR hl7
      go_wp2_with fail
      go_region_law (first
          | (refine step_append_lies _ (by rfl) _ _ _ (by rfl) w.heap.size 49 i0 _ 7 104 Try.underlying29 hi0 hz0 hz1 hz2 rfl (by omega) (.slice oa j oc) j xs (by rfl) (HOWN.out.alloc _) ⟨w1.heap.size, 0, none⟩ 1 1 [.int .i64 l[j].id, .string l[j].type, .int .i64 l[j].cells.kind, .int .i64 l[j].cells.num, .string l[j].cells.text, .slice p1 l[j].cells.list.length n1, .slice p1' l[j].cells.names.length n1'] (by rfl) (by rfl) (World.news_of_block (cs := #[.int .i64 l[j].id, .string l[j].type, .int .i64 l[j].cells.kind, .int .i64 l[j].cells.num, .string l[j].cells.text, .slice p1 l[j].cells.list.length n1, .slice p1' l[j].cells.names.length n1']) (t := 49) (fr := (0, 0)) (heap_alloc_new w1 _)) (by simp [Value.oneCell']) (by omega) (by unfold maxLen; have := HW.out; omega) (by have := HW.out; omega) (by simp; omega) (w1.heap.size + 1) (by simp) ?_; intro g cap w2 hown2 hgrow hat hlt2)
          | (go_simp; go_at_call 39; refine (Hid.out HCALL).mono ?_; rintro e w1 ⟨p1, n1, p1', n1', rfl, d0, d1, hsz1, HOWN, HB1, HI, HT⟩))
      all_goals
        obtain ⟨lo', hi', hC'⟩ := HC.out.step hlt HB1.out HI.out HT.out hown2 hgrow hat
        have HC' : Hid (CopyingN k l w w2 (some ⟨g, 0, none⟩) cap (j + 1) _ lo' hi') := hC'
        clear hC' HC hgrow hown2 hat HB1 HI HT HOWN c0 c1 c2 c3 c4 c5 c6 d0 d1
        go_wp2_with fail
        exact ⟨⟨j + 1, some ⟨g, 0, none⟩, cap, _, lo', hi', by omega, rfl, by go_num, HC'⟩, by simp [intOf]; omega⟩
    · obtain rfl : j = l.length := by omega
      go_wp2_with fail
      go_ret
      exact ⟨oa, oc, xs, lo, hi, rfl, HC.out⟩

end Go.Proofs.Ytapcibhkkjiojaa
