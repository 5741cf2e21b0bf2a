
/-
  DERIVED. WHETHER A FORM IS A LIST. No walk.
-/
import Derived.Test.YtdaohfeajicamaaRepF
import Derived.Test.YtdaohfeajicamaaRows
import Derived.KernelRfl
namespace Go.Proofs.Ytdaohfeajicamaa
open Go.RowKit
set_option linter.unusedVariables false
set_option linter.unusedSimpArgs false

theorem nl_null (W : World) (v : Value) : (Instr.typeAssert (.iface 69 v) 51 74 true).run Try.prog W = .ok (.tuple #[.slice none 0 0, .bool false]) W := by kernel_rfl
theorem nl_bool (W : World) (v : Value) : (Instr.typeAssert (.iface 70 v) 51 74 true).run Try.prog W = .ok (.tuple #[.slice none 0 0, .bool false]) W := by kernel_rfl
theorem nl_num (W : World) (v : Value) : (Instr.typeAssert (.iface 71 v) 51 74 true).run Try.prog W = .ok (.tuple #[.slice none 0 0, .bool false]) W := by kernel_rfl
theorem nl_text (W : World) (v : Value) : (Instr.typeAssert (.iface 72 v) 51 74 true).run Try.prog W = .ok (.tuple #[.slice none 0 0, .bool false]) W := by kernel_rfl
theorem nl_tree (W : World) (v : Value) : (Instr.typeAssert (.iface 78 v) 51 74 true).run Try.prog W = .ok (.tuple #[.slice none 0 0, .bool false]) W := by kernel_rfl
theorem nl_var (W : World) (v : Value) : (Instr.typeAssert (.iface 81 v) 51 74 true).run Try.prog W = .ok (.tuple #[.slice none 0 0, .bool false]) W := by kernel_rfl
theorem nl_word (W : World) (v : Value) : (Instr.typeAssert (.iface 83 v) 51 74 true).run Try.prog W = .ok (.tuple #[.slice none 0 0, .bool false]) W := by kernel_rfl
theorem yes_list (W : World) (v : Value) : (Instr.typeAssert (.iface 74 v) 51 74 true).run Try.prog W = .ok (.tuple #[v, .bool true]) W := by kernel_rfl

end Go.Proofs.Ytdaohfeajicamaa
