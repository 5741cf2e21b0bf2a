
/-
  DERIVED. THE WALK OF impl.TreeGet.
-/
import Derived.Test.YthhnhigaoncakaaTreeGet
namespace Go.Proofs.Ythhnhigaoncakaa
open Go.RowKit
set_option linter.unusedVariables false
set_option linter.unusedSimpArgs false

def ImplTG (k : Nat) (t : Vl) (s : ByteArray) (w : World) (e : Ending) (w' : World) : Prop :=
  ∃ vl vn, e = .returned (.tuple #[.agg #[.int .i64 (vlOf (treeG t s)).kind, .int .i64 (vlOf (treeG t s)).num, .string (vlOf (treeG t s)).text, vl, vn], .bool (treeG t s).isSome]) ∧
    VlO w' (k + 1) w.heap.size w'.heap.size (vlOf (treeG t s)) [.int .i64 (vlOf (treeG t s)).kind, .int .i64 (vlOf (treeG t s)).num, .string (vlOf (treeG t s)).text, vl, vn] ∧ Below w.heap.size w w'

theorem zero_own (w : World) (k lo hi : Nat) (h : lo ≤ hi) : VlO w (k + 1) lo hi zeroV [.int .i64 0, .int .i64 0, .string ByteArray.empty, .slice none 0 0, .slice none 0 0] :=
  vlO_plain (t := zeroV) h rfl rfl ⟨by decide, by decide⟩ ⟨by decide, by decide⟩ (by simp [zeroV])

theorem implTG_none {k : Nat} {t : Vl} {s : ByteArray} {w W : World} (hG : treeG t s = none) (hb : Below w.heap.size w W) :
    ImplTG k t s w (.returned (.tuple #[.agg #[.int .i64 0, .int .i64 0, .string ByteArray.empty, .slice none 0 0, .slice none 0 0], .bool false])) W := by
  unfold ImplTG
  rw [hG]
  exact ⟨_, _, rfl, zero_own _ _ _ _ hb.size, hb⟩

end Go.Proofs.Ythhnhigaoncakaa
