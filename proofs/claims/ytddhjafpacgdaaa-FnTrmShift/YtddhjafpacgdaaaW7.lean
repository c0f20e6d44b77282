/- The walks of TrmSame, of the model and of the program (slices.Equal). -/
import Derived.Test.YtddhjafpacgdaaaW6
import Derived.Laws.StructEq
import Derived.Deep.QuietTactic
import Derived.BigQuiet
import Derived.WalkSmall
namespace Go.Proofs.Ytddhjafpacgdaaa
open Go.RowKit
set_option linter.unusedVariables false
set_option linter.unusedSimpArgs false

theorem Try.heldCell : Try.prog.stoodInHeld 36 = false := by kernel_rfl
theorem Try.fieldsCell : Try.prog.underlying 36 = some (.struct (Try.prog.fieldsOf 36)) := by kernel_rfl
theorem Try.guardCell : Try.prog.eqGuardType Try.prog.depth 36 = false := by kernel_rfl

theorem neq_cell (c d : C) (w : World) : (binOp .neq 36 (.agg #[.int .i64 c.k, .int .i64 c.n, .string c.s]) (.agg #[.int .i64 d.k, .int .i64 d.n, .string d.s])).run Try.prog w = .ok (.bool (!same c d)) w := by
  rw [run_neq_struct, run_equalIn_agg w 9999 36 _ _ Try.fieldsCell Try.heldCell]
  by_cases h1 : c.k = d.k
  · by_cases h2 : c.n = d.n
    · simp [Program.fieldsOf, Try.underlying36, Op.eqFields, go_sem, same, h1, h2, ByteArray.toList_eq]
      by_cases h3 : c.s.data = d.s.data
      · simp [h3]
      · simp [h3]
    · simp [Program.fieldsOf, Try.underlying36, Op.eqFields, go_sem, same, h1, h2]
  · simp [Program.fieldsOf, Try.underlying36, Op.eqFields, go_sem, same, h1]

end Go.Proofs.Ytddhjafpacgdaaa
