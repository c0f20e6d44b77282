/- The walks of TrmSame, of the model and of the program (slices.Equal). -/
import Derived.Test.YtoanmnmodlocgaaDoorW6
import Derived.Laws.StructEq
import Derived.Deep.QuietTactic
import Derived.BigQuiet
import Derived.WalkSmall
namespace Go.Proofs.YtoanmnmodlocgaaDoor
open Go.RowKit
set_option linter.unusedVariables false
set_option linter.unusedSimpArgs false

theorem Tryd.heldCell : Tryd.prog.stoodInHeld 34 = false := by kernel_rfl
theorem Tryd.fieldsCell : Tryd.prog.underlying 34 = some (.struct (Tryd.prog.fieldsOf 34)) := by kernel_rfl
theorem Tryd.guardCell : Tryd.prog.eqGuardType Tryd.prog.depth 34 = false := by kernel_rfl

theorem neq_cell (c d : C) (w : World) : (binOp .neq 34 (.agg #[.int .i64 c.k, .int .i64 c.n, .string c.s]) (.agg #[.int .i64 d.k, .int .i64 d.n, .string d.s])).run Tryd.prog w = .ok (.bool (!same c d)) w := by
  rw [run_neq_struct, run_equalIn_agg w 9999 34 _ _ Tryd.fieldsCell Tryd.heldCell]
  by_cases h1 : c.k = d.k
  · by_cases h2 : c.n = d.n
    · simp [Program.fieldsOf, Tryd.underlying34, Op.eqFields, go_sem, same, h1, h2, ByteArray.toList_eq]
      by_cases h3 : c.s.data = d.s.data
      · simp [h3]
      · simp [h3]
    · simp [Program.fieldsOf, Tryd.underlying34, Op.eqFields, go_sem, same, h1, h2]
  · simp [Program.fieldsOf, Tryd.underlying34, Op.eqFields, go_sem, same, h1]

end Go.Proofs.YtoanmnmodlocgaaDoor
