
/-
  DERIVED. A BUILDER THAT TURNS NOTHING BUT ITSELF: the walks of copyCheck, WriteByte and impl.writeFigures, with all other blocks kept, rows of bytes too.
-/
import Derived.Test.YtkogdlncjciboaaDoorJpG
import Derived.Deep.AppendLies
namespace Go.Proofs.YtkogdlncjciboaaDoor
open Go.RowKit
set_option linter.unusedVariables false
set_option linter.unusedSimpArgs false

/-- What a builder's writer leaves: every block but the builder's and its buffer's. -/
structure FrX (b : Nat) (row : Option Nat) (w w' : World) : Prop where
  os : w'.os = w.os
  tape : w'.tape = w.tape
  output : w'.output = w.output
  size : w.heap.size ≤ w'.heap.size
  block : ∀ q, q < w.heap.size → q ≠ b → some q ≠ row → w'.heap[q]? = w.heap[q]?
/-- A builder in block b, its buffer v in memory from B on, that holds the bytes l. -/
def BX (B b : Nat) (l : List UInt8) (w : World) (v : Value) : Prop :=
  B ≤ b ∧ (∃ p, w.heap[b]? = some (.cells #[p, v] 66 (0, 0)) ∧ (p = .pointer none ∨ p = .pointer (some ⟨b, 0, none⟩))) ∧ w.ownsRow B 5 1 v l.length (Lib.byteCells l) ∧ v.ownBlock ≠ some b
theorem BX.bld {B b : Nat} {l : List UInt8} {w : World} {v : Value} (h : BX B b l w v) : Bld B b l w := by
  obtain ⟨h1, ⟨p, h2, h3⟩, h4, h5⟩ := h
  have h4' : w.ownsRow B 5 1 v (Lib.byteCells l).length (Lib.byteCells l) := by rw [Lib.byteCells_length]; exact h4
  rcases h3 with rfl | rfl
  · exact Or.inl ⟨h1, v, h2, h4', h5⟩
  · exact Or.inr ⟨h1, v, h2, h4', h5⟩
theorem BX.lt {B b : Nat} {l : List UInt8} {w : World} {v : Value} (h : BX B b l w v) : B ≤ b ∧ b < w.heap.size := h.bld.le

set_option maxHeartbeats 1000000 in
set_option maxRecDepth 100000 in
theorem copyCheck_x (B b : Nat) (l : List UInt8) (v : Value) (w : World) (h : BX B b l w v) :
    Calls Tryd.prog 61 #[.pointer (some ⟨b, 0, none⟩)] w fun e w' => e = .returned (.tuple #[]) ∧ w'.heap[b]? = some (.cells #[.pointer (some ⟨b, 0, none⟩), v] 66 (0, 0)) ∧ FrX b none w w' ∧ w'.heap.size = w.heap.size := by
  obtain ⟨j, hj, hjs⟩ := info_builder
  have hlt := h.lt.2
  obtain ⟨hB, ⟨p, hb, hp⟩, hown, hne⟩ := h
  have H : Hid (w.heap[b]? = some (.cells #[p, v] 66 (0, 0))) := hb
  have c0 : w.cell? ⟨b, 0, none⟩ = some p := by rw [Lib.cell_of_heap hb]; rfl
  have f0 : w.frozen? ⟨b, 0, none⟩ = false := Lib.frozen_of_heap hb 0
  have hsh : w.shape? b = some (66, 2) := by simp [World.shape?, hb]
  clear hb hown
  rcases hp with rfl | rfl
  · have HE : Hid ((w.setCell ⟨b, 0, none⟩ (.pointer (some ⟨b, 0, none⟩))).heap[b]? = some (.cells #[.pointer (some ⟨b, 0, none⟩), v] 66 (0, 0)) ∧ FrX b none w (w.setCell ⟨b, 0, none⟩ (.pointer (some ⟨b, 0, none⟩))) ∧ (w.setCell ⟨b, 0, none⟩ (.pointer (some ⟨b, 0, none⟩))).heap.size = w.heap.size) := by
      refine ⟨?_, ⟨rfl, rfl, rfl, by simp [World.setCell], fun q _ hq _ => Below.heap_setCell _ _ _ _ hq⟩, by simp [World.setCell]⟩
      have := (show Owns w b #[.pointer none, v] 66 from H.out).set 0 (.pointer (some ⟨b, 0, none⟩))
      simpa [Owns] using this
    clear H
    go_enter Tryd.func61, Tryd.ntmps61
    go_wp2
    rw [Lib.run_to_unsafe w ⟨b, 0, none⟩ Tryd.underlying64 Tryd.underlying95 hj (by rw [hjs]; decide) hsh (Nat.zero_lt_succ 1)]
    simp only [Result.andThen]
    rw [Oper.upon_value]
    go_wp2
    rw [run_callFunc_extern Tryd.func63 (by kernel_rfl) (by kernel_rfl) (by kernel_rfl) (e := Extern.AbiNoEscape.same) (by kernel_rfl)]
    rw [Lib.run_noEscape]
    simp only [Result.andThen]
    rw [Oper.upon_value]
    go_wp2
    rw [Lib.run_from_unsafe w ⟨b, 0, none⟩ Tryd.underlying95 Tryd.underlying64 hj hsh (by kernel_rfl)]
    simp only [Result.andThen]
    rw [Oper.upon_value]
    go_wp2
    go_end0
    exact ⟨rfl, HE.out⟩
  · have hq := fun W : World => Lib.run_neq_ptr_same (P := Tryd.prog) W (tp := 64) (te := 66) (⟨b, 0, none⟩ : Addr) Tryd.underlying64 hj
    go_enter Tryd.func61, Tryd.ntmps61
    go_wp2
    go_end0
    exact ⟨rfl, H.out, ⟨rfl, rfl, rfl, Nat.le_refl _, fun _ _ _ _ => rfl⟩, rfl⟩

set_option maxHeartbeats 1000000 in
set_option maxRecDepth 100000 in
theorem writeByte_x (B b : Nat) (l : List UInt8) (c : UInt8) (v : Value) (w : World) (h : BX B b l w v) (hlen : l.length + 1 ≤ 140737488355328) :
    Calls Tryd.prog 56 #[.pointer (some ⟨b, 0, none⟩), .int .u8 (c.toNat : Int)] w fun e w' => e = .returned .nilIface ∧ (∃ v', BX B b (l ++ [c]) w' v' ∧ (∀ g, v'.ownBlock = some g → v.ownBlock = some g ∨ w.heap.size ≤ g)) ∧ FrX b v.ownBlock w w' := by
  obtain ⟨i0, hi0, hz0, hz1, hz2⟩ := info_byte
  have hlt := h.lt.2
  have HX : Hid (BX B b l w v) := h
  go_enter Tryd.func56, Tryd.ntmps56
  go_wp2_with fail
  refine (copyCheck_x B b l v w h).mono ?_
  rintro e w1 ⟨rfl, hbk, hf1, hs1⟩
  obtain ⟨hB, _, hown, hne⟩ := h
  have hown1 : w1.ownsRow B 5 1 v l.length (Lib.byteCells l) := by
    refine ⟨hown.1, ?_⟩
    rcases hown.2 with h0 | ⟨g, cap, cur, q1, q2, q3, q4⟩
    · exact Or.inl h0
    · have hgl : g < w.heap.size := by
        by_cases hx : g < w.heap.size
        · exact hx
        · rw [Array.getElem?_eq_none (by omega)] at q3; simp at q3
      exact Or.inr ⟨g, cap, cur, q1, q2, (hf1.block g hgl (fun he => hne (by rw [q1, he]; rfl)) (by simp)).trans q3, q4⟩
  have c0 : w1.cell? ⟨b, 0, none⟩ = some (.pointer (some ⟨b, 0, none⟩)) := by rw [Lib.cell_of_heap hbk]; rfl
  have c1 : w1.cell? ⟨b, 1, none⟩ = some v := by rw [Lib.cell_of_heap hbk]; rfl
  have HOWN : Hid (w1.ownsRow B 5 1 v l.length (Lib.byteCells l)) := hown1
  have HF1 : Hid (FrX b none w w1) := hf1
  have hBw1 : B ≤ w1.heap.size := by omega
  have hlt1 : b < w1.heap.size := by omega
  have HS1 : Hid (w1.heap.size = w.heap.size) := hs1
  clear hown hown1 hf1 hs1
  go_wp2_with (at_builtin; refine wpList_append_lies _ rfl _ _ 24 rfl B 5 i0 (.int .u8 0) 1 1 Tryd.underlying24 hi0 hz0 hz1 hz2 rfl (by decide) _ _ _ rfl (HOWN.out.alloc _) ⟨w1.heap.size, 0, none⟩ 1 1 [.int .u8 (c.toNat : Int)] rfl rfl (World.news_of_block (cs := #[.int .u8 (c.toNat : Int)]) (t := 5) (fr := (0, 0)) (heap_alloc_new w1 _)) (by simp [Value.oneCell']) (by omega) (by unfold maxLen; omega) (by omega) (by simp; omega) (w1.heap.size + 1) (by simp) ?_)
  intro gn cap w2 hown' hgrow hat _
  have hb2 : w2.heap[b]? = some (.cells #[.pointer (some ⟨b, 0, none⟩), v] 66 (0, 0)) := by
    rw [hgrow.block b (by simp; omega) (fun e => hne e.symm), Below.heap_alloc _ _ _ hlt1]
    exact hbk
  have d0 : w2.cell? ⟨b, 0, none⟩ = some (.pointer (some ⟨b, 0, none⟩)) := by rw [Lib.cell_of_heap hb2]; rfl
  have d1 : w2.cell? ⟨b, 1, none⟩ = some v := by rw [Lib.cell_of_heap hb2]; rfl
  have f1 : w2.frozen? ⟨b, 1, none⟩ = false := Lib.frozen_of_heap hb2 1
  have HRES : Hid ((∃ v', BX B b (l ++ [c]) (w2.setCell ⟨b, 1, none⟩ (.slice (some ⟨gn, 0, none⟩) (l.length + 1) cap)) v' ∧ (∀ g, v'.ownBlock = some g → v.ownBlock = some g ∨ w.heap.size ≤ g)) ∧ FrX b v.ownBlock w (w2.setCell ⟨b, 1, none⟩ (.slice (some ⟨gn, 0, none⟩) (l.length + 1) cap))) := by
    have hbc : Lib.byteCells (l ++ [c]) = Lib.byteCells l ++ [.int .u8 (c.toNat : Int)] := by simp [Lib.byteCells]
    have hput := Lib.BuilderAt.put (T := 66) (e := 5) (B := B) hB hb2 (bs' := Lib.byteCells (l ++ [c])) (v' := .slice (some ⟨gn, 0, none⟩) (l.length + 1) cap) (by rw [Lib.byteCells_length, hbc]; simpa using hown') (by decide)
    have hsz := hgrow.size
    have hs1 := HS1.out
    simp at hsz
    refine ⟨⟨.slice (some ⟨gn, 0, none⟩) (l.length + 1) cap, ⟨hB, ?_, ?_, ?_⟩, ?_⟩, ?_⟩
    · refine ⟨_, ?_, Or.inr rfl⟩
      have := (show Owns w2 b #[.pointer (some ⟨b, 0, none⟩), v] 66 from hb2).set 1 (.slice (some ⟨gn, 0, none⟩) (l.length + 1) cap)
      simpa [Owns] using this
    · obtain ⟨_, v2, q1, q2, _⟩ := hput
      have := (show Owns w2 b #[.pointer (some ⟨b, 0, none⟩), v] 66 from hb2).set 1 (.slice (some ⟨gn, 0, none⟩) (l.length + 1) cap)
      have h2 : v2 = .slice (some ⟨gn, 0, none⟩) (l.length + 1) cap := by
        have h3 := q1.symm.trans (by simpa [Owns] using this)
        simp at h3
        exact h3
      rw [h2, Lib.byteCells_length] at q2
      exact q2
    · obtain ⟨_, v2, q1, q2, q3⟩ := hput
      have := (show Owns w2 b #[.pointer (some ⟨b, 0, none⟩), v] 66 from hb2).set 1 (.slice (some ⟨gn, 0, none⟩) (l.length + 1) cap)
      have h2 : v2 = .slice (some ⟨gn, 0, none⟩) (l.length + 1) cap := by
        have h3 := q1.symm.trans (by simpa [Owns] using this)
        simp at h3
        exact h3
      rw [h2] at q3
      exact q3
    · intro g hg
      simp only [Value.ownBlock, Option.some.injEq] at hg
      subst hg
      rcases hat with h | h
      · exact Or.inl h
      · exact Or.inr (by omega)
    · have hf := HF1.out
      refine ⟨hgrow.os.trans hf.os, hgrow.tape.trans hf.tape, hgrow.output.trans hf.output, by simp [World.setCell]; omega, fun q h1 h2 h3 => ?_⟩
      rw [Below.heap_setCell _ _ _ _ h2, hgrow.block q (by simp; omega) h3, Below.heap_alloc _ _ _ (by omega)]
      exact hf.block q h1 h2 (by simp)
  clear hgrow hown' hb2 hbk hat
  go_wp2_with fail
  go_ret
  exact ⟨rfl, HRES.out⟩

/-- One frame behind another one, where the buffer may have moved. -/
theorem FrX.trans {b : Nat} {r1 r2 : Option Nat} {w w' w'' : World} (h : FrX b r1 w w') (k : FrX b r2 w' w'') (hr : ∀ g, r2 = some g → r1 = some g ∨ w.heap.size ≤ g) : FrX b r1 w w'' :=
  ⟨k.os.trans h.os, k.tape.trans h.tape, k.output.trans h.output, Nat.le_trans h.size k.size, fun q h1 h2 h3 => by
    rw [k.block q (Nat.lt_of_lt_of_le h1 h.size) h2 (fun he => by
      rcases hr q he.symm with h4 | h4
      · exact h3 h4.symm
      · omega)]
    exact h.block q h1 h2 h3⟩

set_option maxHeartbeats 1000000 in
set_option maxRecDepth 100000 in
theorem writeFigures_x (B b : Nat) (l : List UInt8) (c : UInt8) (v : Value) (w : World) (h : BX B b l w v) (hlen : l.length + 2 ≤ 140737488351232) :
    Calls Tryd.prog 42 #[.pointer (some ⟨b, 0, none⟩), .int .u8 c.toNat] w fun e w' => e = .returned (.tuple #[]) ∧ (∃ v', BX B b (l ++ [hexU (c.toNat / 16), hexU (c.toNat % 16)]) w' v' ∧ (∀ g, v'.ownBlock = some g → v.ownBlock = some g ∨ w.heap.size ≤ g)) ∧ FrX b v.ownBlock w w' := by
  have H : Hid (BX B b l w v) := h
  have hc8 : (c.toNat : Int) < 256 := by have := c.toNat_lt; omega
  have h16 : c.toNat / 16 < 16 := by have := c.toNat_lt; omega
  have h15 : c.toNat % 16 < 16 := Nat.mod_lt _ (by omega)
  have e1 := hex_at _ h16
  have e2 := hex_at _ h15
  have HW1 : Hid (∀ (n : Int), n = ((hexU (c.toNat / 16)).toNat : Int) → Calls Tryd.prog 56 #[.pointer (some ⟨b, 0, none⟩), .int .u8 n] w fun e w' => e = .returned .nilIface ∧ (∃ v', BX B b (l ++ [hexU (c.toNat / 16)]) w' v' ∧ (∀ g, v'.ownBlock = some g → v.ownBlock = some g ∨ w.heap.size ≤ g)) ∧ FrX b v.ownBlock w w') := fun n hn => by
    subst hn; exact writeByte_x B b l _ v w H.out (by omega)
  have HE1 : Hid _ := e1
  have HE2 : Hid _ := e2
  clear h e1 e2
  go_enter Tryd.func42, Tryd.ntmps42
  go_wp2_with fail
  refine (HW1.out _ HE1.out).mono ?_
  rintro e w3 ⟨rfl, ⟨v3, h3, hv3⟩, hf3⟩
  have HB3 : Hid (BX B b (l ++ [hexU (c.toNat / 16)]) w3 v3) := h3
  have HV3 : Hid (∀ g, v3.ownBlock = some g → v.ownBlock = some g ∨ w.heap.size ≤ g) := hv3
  have HF3 : Hid (FrX b v.ownBlock w w3) := hf3
  clear h3 hf3 hv3 HW1
  have HW2 : Hid (∀ (n : Int), n = ((hexU (c.toNat % 16)).toNat : Int) → Calls Tryd.prog 56 #[.pointer (some ⟨b, 0, none⟩), .int .u8 n] w3 fun e w' => e = .returned .nilIface ∧ (∃ v', BX B b (l ++ [hexU (c.toNat / 16)] ++ [hexU (c.toNat % 16)]) w' v' ∧ (∀ g, v'.ownBlock = some g → v3.ownBlock = some g ∨ w3.heap.size ≤ g)) ∧ FrX b v3.ownBlock w3 w') := fun n hn => by
    subst hn; exact writeByte_x B b _ _ v3 w3 HB3.out (by simp only [List.length_append, List.length_cons, List.length_nil]; omega)
  go_wp2_with fail
  refine (HW2.out _ HE2.out).mono ?_
  rintro e w4 ⟨rfl, ⟨v4, h4, hv4⟩, hf4⟩
  have HR : Hid ((∃ v', BX B b (l ++ [hexU (c.toNat / 16), hexU (c.toNat % 16)]) w4 v' ∧ (∀ g, v'.ownBlock = some g → v.ownBlock = some g ∨ w.heap.size ≤ g)) ∧ FrX b v.ownBlock w w4) := by
    refine ⟨⟨v4, by simpa using h4, fun g hg => ?_⟩, HF3.out.trans hf4 HV3.out⟩
    rcases hv4 g hg with h5 | h5
    · exact HV3.out g h5
    · exact Or.inr (Nat.le_trans HF3.out.size h5)
  clear h4 hf4 hv4 HW2 HB3 HV3 HF3
  go_wp2_with fail
  go_end0
  exact ⟨rfl, HR.out⟩

end Go.Proofs.YtkogdlncjciboaaDoor
