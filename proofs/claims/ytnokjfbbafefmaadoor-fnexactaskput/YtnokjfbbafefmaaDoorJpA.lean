
/-
  DERIVED. A BUILDER THAT HOLDS BYTES: the walks of (*strings.Builder).copyCheck, WriteByte, WriteString.
-/
import Derived.Test.YtnokjfbbafefmaaDoorRep
import Derived.Test.YtnokjfbbafefmaaDoorRows
import Derived.WalkKit
import Derived.WalkSpells
import Derived.WalkLawsBesides
import Derived.Lib.Builder
import Derived.Lib.OthersKept
import Derived.Lib.SliceRun
import Derived.Lib.AppendStr
import Derived.Lib.UnsafeStr
import Derived.Laws.AppendOwn
import Derived.Deep.AppendLies
import Derived.BigQuiet
namespace Go.Proofs.YtnokjfbbafefmaaDoor
open Go.RowKit
set_option linter.unusedVariables false
set_option linter.unusedSimpArgs false

theorem info_byte : ∃ i, Tryd.prog.info? 5 = some i ∧ i.zero = some (.int .u8 0) ∧ i.size = 1 ∧ i.bytes = 1 := by
  have h : (Tryd.prog.info? 5).map (fun i => (i.zero, i.size, i.bytes)) = some (some (.int .u8 0), 1, 1) := by kernel_rfl
  obtain ⟨i, h1, h2⟩ := Option.map_eq_some_iff.1 h
  simp only [Prod.mk.injEq] at h2
  exact ⟨i, h1, h2.1, h2.2.1, h2.2.2⟩
/-- What a writer to it leaves: all below B, and every block but the builder's and rows of bytes. -/
structure Fra (B b : Nat) (w w' : World) : Prop where
  below : Below B w w'
  others : Lib.OthersKept 5 (some b) w w'
theorem Fra.refl (B b : Nat) (w : World) : Fra B b w w := ⟨Below.refl _ _, Lib.OthersKept.refl _ _ _⟩
theorem Fra.trans {B b : Nat} {w w' w'' : World} (h : Fra B b w w') (h' : Fra B b w' w'') : Fra B b w w'' := ⟨h.below.trans h'.below, h.others.trans h'.others⟩
theorem Fra.alloc {B b : Nat} {w w' : World} (h : Fra B b w w') (hB : B ≤ w'.heap.size) (o : Obj) : Fra B b w (w'.alloc o) := ⟨h.below.alloc hB o, h.others.alloc o⟩
theorem Fra.drew {B b : Nat} {w w' : World} (h : Fra B b w w') : Fra B b w w'.drew := ⟨h.below.drew, h.others.drew⟩
theorem Fra.owns {B b : Nat} {w w' : World} (h : Fra B b w w') {x : Nat} {c : Array Value} {e : TypeId} (ho : Owns w x c e) (hx : x ≠ b) (he : e ≠ 5) : Owns w' x c e :=
  h.others x _ ho (fun h => hx (Option.some.inj h)) (fun c' fz hc => by injection hc with _ h2; exact he h2)
theorem row_bytes {w : World} {B n : Nat} {v : Value} {xs : List Value} (h : w.ownsRow B 5 1 v n xs) : ∀ g, v.ownBlock = some g → ∃ c fz, w.heap[g]? = some (.cells c 5 fz) := fun g hg => by
  rcases h.2 with ⟨rfl, _⟩ | ⟨g', cap, cur, rfl, h1, h2, _⟩
  · simp [Value.ownBlock] at hg
  · simp [Value.ownBlock] at hg; subst hg; exact ⟨_, _, h2⟩

end Go.Proofs.YtnokjfbbafefmaaDoor
