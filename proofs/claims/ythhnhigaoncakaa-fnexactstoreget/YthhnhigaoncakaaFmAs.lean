
/-
  DERIVED. WHETHER A FORM IS A TREE. No walk.
-/
import Derived.Test.YthhnhigaoncakaaRepF
import Derived.Test.YthhnhigaoncakaaRows
import Derived.KernelRfl
namespace Go.Proofs.Ythhnhigaoncakaa
open Go.RowKit
set_option linter.unusedVariables false
set_option linter.unusedSimpArgs false

theorem no_null (W : World) (v : Value) : (Instr.typeAssert (.iface 81 v) 53 71 true).run Try.prog W = .ok (.tuple #[.slice none 0 0, .bool false]) W := by kernel_rfl
theorem no_bool (W : World) (v : Value) : (Instr.typeAssert (.iface 97 v) 53 71 true).run Try.prog W = .ok (.tuple #[.slice none 0 0, .bool false]) W := by kernel_rfl
theorem no_num (W : World) (v : Value) : (Instr.typeAssert (.iface 98 v) 53 71 true).run Try.prog W = .ok (.tuple #[.slice none 0 0, .bool false]) W := by kernel_rfl
theorem no_text (W : World) (v : Value) : (Instr.typeAssert (.iface 99 v) 53 71 true).run Try.prog W = .ok (.tuple #[.slice none 0 0, .bool false]) W := by kernel_rfl
theorem no_list (W : World) (v : Value) : (Instr.typeAssert (.iface 101 v) 53 71 true).run Try.prog W = .ok (.tuple #[.slice none 0 0, .bool false]) W := by kernel_rfl
theorem no_var (W : World) (v : Value) : (Instr.typeAssert (.iface 105 v) 53 71 true).run Try.prog W = .ok (.tuple #[.slice none 0 0, .bool false]) W := by kernel_rfl
theorem no_word (W : World) (v : Value) : (Instr.typeAssert (.iface 106 v) 53 71 true).run Try.prog W = .ok (.tuple #[.slice none 0 0, .bool false]) W := by kernel_rfl
theorem yes_tree (W : World) (v : Value) : (Instr.typeAssert (.iface 71 v) 53 71 true).run Try.prog W = .ok (.tuple #[v, .bool true]) W := by kernel_rfl

end Go.Proofs.Ythhnhigaoncakaa
