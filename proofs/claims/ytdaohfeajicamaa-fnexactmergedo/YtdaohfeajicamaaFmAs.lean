
/-
  DERIVED. WHETHER A FORM IS A TREE. No walk.
-/
import Derived.Test.YtdaohfeajicamaaRepF
import Derived.Test.YtdaohfeajicamaaRows
import Derived.KernelRfl
namespace Go.Proofs.Ytdaohfeajicamaa
open Go.RowKit
set_option linter.unusedVariables false
set_option linter.unusedSimpArgs false

theorem no_null (W : World) (v : Value) : (Instr.typeAssert (.iface 69 v) 51 78 true).run Try.prog W = .ok (.tuple #[.slice none 0 0, .bool false]) W := by kernel_rfl
theorem no_bool (W : World) (v : Value) : (Instr.typeAssert (.iface 70 v) 51 78 true).run Try.prog W = .ok (.tuple #[.slice none 0 0, .bool false]) W := by kernel_rfl
theorem no_num (W : World) (v : Value) : (Instr.typeAssert (.iface 71 v) 51 78 true).run Try.prog W = .ok (.tuple #[.slice none 0 0, .bool false]) W := by kernel_rfl
theorem no_text (W : World) (v : Value) : (Instr.typeAssert (.iface 72 v) 51 78 true).run Try.prog W = .ok (.tuple #[.slice none 0 0, .bool false]) W := by kernel_rfl
theorem no_list (W : World) (v : Value) : (Instr.typeAssert (.iface 74 v) 51 78 true).run Try.prog W = .ok (.tuple #[.slice none 0 0, .bool false]) W := by kernel_rfl
theorem no_var (W : World) (v : Value) : (Instr.typeAssert (.iface 81 v) 51 78 true).run Try.prog W = .ok (.tuple #[.slice none 0 0, .bool false]) W := by kernel_rfl
theorem no_word (W : World) (v : Value) : (Instr.typeAssert (.iface 83 v) 51 78 true).run Try.prog W = .ok (.tuple #[.slice none 0 0, .bool false]) W := by kernel_rfl
theorem yes_tree (W : World) (v : Value) : (Instr.typeAssert (.iface 78 v) 51 78 true).run Try.prog W = .ok (.tuple #[v, .bool true]) W := by kernel_rfl

end Go.Proofs.Ytdaohfeajicamaa
