
/-
  DERIVED. A TYPE THAT OWNS ITS MEMORY: each list within it a block of its own. No walk.
-/
import Derived.Test.YtdaohfeajicamaaRep
namespace Go.Proofs.Ytdaohfeajicamaa
open Go.RowKit
set_option linter.unusedVariables false
set_option linter.unusedSimpArgs false

/-- A type of lists of one, in the blocks bs, one within the other. -/
def TyO (e : TypeId) (w : World) : List Nat → Ty → List Value → Prop
  | [], t, cs => t.of = [] ∧ cs = [.string t.name, .slice none 0 0, .bool t.must]
  | b :: bs, t, cs => ∃ x c0 c1 c2, t.of = [x] ∧ cs = [.string t.name, .slice (some ⟨b, 0, none⟩) 1 1, .bool t.must] ∧ Owns w b #[c0, c1, c2] e ∧ b ∉ bs ∧ TyO e w bs x [c0, c1, c2]

theorem Owns.same {w w' : World} {b : Nat} {c : Array Value} {e : TypeId} (h : Owns w b c e) (hb : w'.heap[b]? = w.heap[b]?) : Owns w' b c e := by
  unfold Owns at h ⊢; rw [hb]; exact h

theorem TyO.same {e : TypeId} {w w' : World} : ∀ (bs : List Nat) (t : Ty) (cs : List Value), (∀ b ∈ bs, w'.heap[b]? = w.heap[b]?) → TyO e w bs t cs → TyO e w' bs t cs
  | [], _, _, _, h => h
  | b :: bs, t, cs, hk, ⟨x, c0, c1, c2, h1, h2, h3, h4, h5⟩ =>
    ⟨x, c0, c1, c2, h1, h2, h3.same (hk b List.mem_cons_self), h4, TyO.same bs x _ (fun b' hb => hk b' (List.mem_cons_of_mem _ hb)) h5⟩

theorem TyO.lt {e : TypeId} {w : World} : ∀ (bs : List Nat) (t : Ty) (cs : List Value), TyO e w bs t cs → ∀ b ∈ bs, b < w.heap.size
  | [], _, _, _ => fun b hb => by simp at hb
  | b :: bs, t, cs, ⟨x, c0, c1, c2, h1, h2, h3, h4, h5⟩ => fun b' hb => by
    rcases List.mem_cons.1 hb with rfl | hb
    · exact h3.lt
    · exact TyO.lt bs x _ h5 b' hb

theorem TyO.keeps {e : TypeId} {base : Nat} {w w' : World} {bs : List Nat} {t : Ty} {cs : List Value} (hk : Keeps base w w') (hb : ∀ b ∈ bs, base ≤ b) (h : TyO e w bs t cs) : TyO e w' bs t cs :=
  TyO.same bs t cs (fun b hb' => hk.block b (hb b hb') (TyO.lt bs t cs h b hb')) h

theorem TyO.slice {e : TypeId} {w : World} {bs : List Nat} {t : Ty} {x v y : Value} (h : TyO e w bs t [x, v, y]) : ∃ a n, v = .slice a n n := by
  cases bs with
  | nil => obtain ⟨_, h⟩ := h; simp only [List.cons.injEq] at h; exact ⟨none, 0, h.2.1⟩
  | cons b bs => obtain ⟨_, _, _, _, _, h, _⟩ := h; simp only [List.cons.injEq] at h; exact ⟨_, 1, h.2.1⟩

/-- Only blocks of bs, of those that were there, have turned. -/
structure Turns (bs : List Nat) (w w' : World) : Prop where
  os : w'.os = w.os
  tape : w'.tape = w.tape
  output : w'.output = w.output
  size : w.heap.size ≤ w'.heap.size
  block : ∀ k, k < w.heap.size → k ∉ bs → w'.heap[k]? = w.heap[k]?

theorem Turns.refl (bs : List Nat) (w : World) : Turns bs w w := ⟨rfl, rfl, rfl, Nat.le_refl _, fun _ _ _ => rfl⟩
theorem Turns.trans {bs : List Nat} {a b c : World} (h : Turns bs a b) (k : Turns bs b c) : Turns bs a c :=
  ⟨k.os.trans h.os, k.tape.trans h.tape, k.output.trans h.output, Nat.le_trans h.size k.size, fun i h1 h2 => (k.block i (Nat.lt_of_lt_of_le h1 h.size) h2).trans (h.block i h1 h2)⟩
theorem Turns.mono {bs bs' : List Nat} {w w' : World} (h : Turns bs w w') (hs : ∀ b ∈ bs, b ∈ bs') : Turns bs' w w' :=
  ⟨h.os, h.tape, h.output, h.size, fun k h1 h2 => h.block k h1 (fun hb => h2 (hs k hb))⟩
theorem Turns.of_below {B : Nat} {bs : List Nat} {w w' : World} (h : Below B w w') (hB : w.heap.size ≤ B) : Turns bs w w' :=
  ⟨h.os, h.tape, h.output, h.size, fun k h1 _ => h.block k (Nat.lt_of_lt_of_le h1 hB)⟩
theorem Turns.setCell {bs : List Nat} {a w : World} (h : Turns bs a w) {b o : Nat} (hb : b ∈ bs) (u : Value) : Turns bs a (w.setCell ⟨b, o, none⟩ u) :=
  h.trans ⟨rfl, rfl, rfl, by simp [World.setCell], fun k h1 h2 => Below.heap_setCell _ _ _ _ (fun he => h2 (by rw [he]; exact hb))⟩
/-- Where none of bs was there when it began: nothing that was there has turned. -/
theorem Turns.below {B : Nat} {bs : List Nat} {a w w' : World} (h : Turns bs w w') (hb : Below B a w) (hbs : ∀ b ∈ bs, B ≤ b) (hB : B ≤ w.heap.size) : Below B a w' :=
  hb.trans ⟨h.os, h.tape, h.output, h.size, fun k hk => h.block k (by omega) (fun hx => by have := hbs k hx; omega)⟩

/-- A type that was marked from k on. -/
def MkO (e : TypeId) (m : Nat → ByteArray) (w : World) : List Nat → Nat → Value → Prop
  | [], _, v => v = .slice none 0 0
  | b :: bs, k, v => v = .slice (some ⟨b, 0, none⟩) 1 1 ∧ ∃ v1, Owns w b #[.string (m k), v1, .bool ((((k + 1 + 2 * bs.length : Nat) : Int) % 3) == 0)] e ∧ MkO e m w bs (k + 1) v1

theorem MkO.same {e : TypeId} {m : Nat → ByteArray} {w w' : World} : ∀ (bs : List Nat) (k : Nat) (v : Value), (∀ b ∈ bs, w'.heap[b]? = w.heap[b]?) → MkO e m w bs k v → MkO e m w' bs k v
  | [], _, _, _, h => h
  | b :: bs, k, v, hk, ⟨h1, v1, h2, h3⟩ => ⟨h1, v1, h2.same (hk b List.mem_cons_self), MkO.same bs (k + 1) v1 (fun b' hb => hk b' (List.mem_cons_of_mem _ hb)) h3⟩
theorem MkO.lt {e : TypeId} {m : Nat → ByteArray} {w : World} : ∀ (bs : List Nat) (k : Nat) (v : Value), MkO e m w bs k v → ∀ b ∈ bs, b < w.heap.size
  | [], _, _, _ => fun b hb => by simp at hb
  | b :: bs, k, v, ⟨h1, v1, h2, h3⟩ => fun b' hb => by
    rcases List.mem_cons.1 hb with rfl | hb
    · exact h2.lt
    · exact MkO.lt bs (k + 1) v1 h3 b' hb
theorem MkO.on {e : TypeId} {m : Nat → ByteArray} {w w' : World} {bs : List Nat} {k : Nat} {v : Value} (hb : Below w.heap.size w w') (h : MkO e m w bs k v) : MkO e m w' bs k v :=
  MkO.same bs k v (fun b hb' => hb.block b (MkO.lt bs k v h b hb')) h

end Go.Proofs.Ytdaohfeajicamaa
