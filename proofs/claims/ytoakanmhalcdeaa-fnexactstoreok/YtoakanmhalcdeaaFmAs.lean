
/-
  DERIVED. WHETHER A FORM IS A TREE. No walk.
-/
import Derived.Test.YtoakanmhalcdeaaRepF
import Derived.Test.YtoakanmhalcdeaaRows
import Derived.KernelRfl
namespace Go.Proofs.Ytoakanmhalcdeaa
open Go.RowKit
set_option linter.unusedVariables false
set_option linter.unusedSimpArgs false

theorem no_null (W : World) (v : Value) : (Instr.typeAssert (.iface 77 v) 71 58 true).run Try.prog W = .ok (.tuple #[.slice none 0 0, .bool false]) W := by kernel_rfl
theorem no_bool (W : World) (v : Value) : (Instr.typeAssert (.iface 78 v) 71 58 true).run Try.prog W = .ok (.tuple #[.slice none 0 0, .bool false]) W := by kernel_rfl
theorem no_num (W : World) (v : Value) : (Instr.typeAssert (.iface 79 v) 71 58 true).run Try.prog W = .ok (.tuple #[.slice none 0 0, .bool false]) W := by kernel_rfl
theorem no_text (W : World) (v : Value) : (Instr.typeAssert (.iface 80 v) 71 58 true).run Try.prog W = .ok (.tuple #[.slice none 0 0, .bool false]) W := by kernel_rfl
theorem no_list (W : World) (v : Value) : (Instr.typeAssert (.iface 82 v) 71 58 true).run Try.prog W = .ok (.tuple #[.slice none 0 0, .bool false]) W := by kernel_rfl
theorem no_var (W : World) (v : Value) : (Instr.typeAssert (.iface 86 v) 71 58 true).run Try.prog W = .ok (.tuple #[.slice none 0 0, .bool false]) W := by kernel_rfl
theorem no_word (W : World) (v : Value) : (Instr.typeAssert (.iface 87 v) 71 58 true).run Try.prog W = .ok (.tuple #[.slice none 0 0, .bool false]) W := by kernel_rfl
theorem yes_tree (W : World) (v : Value) : (Instr.typeAssert (.iface 58 v) 71 58 true).run Try.prog W = .ok (.tuple #[v, .bool true]) W := by kernel_rfl

end Go.Proofs.Ytoakanmhalcdeaa
