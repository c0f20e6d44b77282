/-
  DERIVED. GIVEN WITH THE SEED: THE PROGRAM's TIES (one call each: nine closed facts by the kernel) AND EACH ROW's TIE, after the 31st guide's Derived/Test/Toyas{Tie, Card}.lean. No idea stands in it: it is a product of the set-up. Laid BY PROGRAM, IN A SANDBOX (cutbox-door.mjs). By AI agents, Wed Nov 11 2026. No macro, syntax, notation, axiom, sorry.
-/
import Derived.Test.YtonpahhcfgdeoaaDoorRows
import Derived.LaidByTextLater
import Derived.SevenTiedAt
import Derived.LaidSub
import Derived.LaidOnce
namespace Go.Proofs.YtonpahhcfgdeoaaDoor
open Go
set_option maxRecDepth 100000
theorem seatTie1 : Tryd.prog.laidByTextLater [("loop.example/catechist/impl.errEnds", Rows.laid_loop_example_catechist_impl_errEnds), ("loop.example/catechist/impl.errGoesOn", Rows.laid_loop_example_catechist_impl_errGoesOn), ("loop.example/catechist/impl.errTerm", Rows.laid_loop_example_catechist_impl_errTerm), ("loop.example/catechist/impl.errLength", Rows.laid_loop_example_catechist_impl_errLength), ("loop.example/catechist/impl.errSum", Rows.laid_loop_example_catechist_impl_errSum)] [.sentinel, .sentinel, .sentinel, .sentinel, .sentinel] true :=
  Program.laidByTextLater_by_one 104 8 2 (by kernel_rfl) (by kernel_rfl) (by kernel_rfl) (by kernel_rfl) (by kernel_rfl) (by kernel_rfl) (fun _ _ => by kernel_rfl)
theorem noOwnUnsafe : Tryd.pinned.checked.prog.headLifts.contains "ownunsafe" = false := by kernel_rfl
theorem tie : Tryd.prog.laidByTextLater [("loop.example/catechist/impl.errEnds", Rows.laid_loop_example_catechist_impl_errEnds), ("loop.example/catechist/impl.errGoesOn", Rows.laid_loop_example_catechist_impl_errGoesOn), ("loop.example/catechist/impl.errTerm", Rows.laid_loop_example_catechist_impl_errTerm), ("loop.example/catechist/impl.errLength", Rows.laid_loop_example_catechist_impl_errLength), ("loop.example/catechist/impl.errSum", Rows.laid_loop_example_catechist_impl_errSum)] [.sentinel, .sentinel, .sentinel, .sentinel, .sentinel] true :=
  Program.laidByTextLater.sub seatTie1 ["loop.example/catechist/impl.errEnds", "loop.example/catechist/impl.errGoesOn", "loop.example/catechist/impl.errTerm", "loop.example/catechist/impl.errLength", "loop.example/catechist/impl.errSum"] (by kernel_rfl) (by kernel_rfl)
theorem fnExactMsgRead_row_tie : Rows.fnExactMsgReadRow.laidByTextAt .later Tryd.pinned [.sentinel, .sentinel, .sentinel, .sentinel, .sentinel] true :=
  OpenClaim.laidByTextAt_later rfl rfl tie noOwnUnsafe
theorem fnExactMsgReadUpto_row_tie : Rows.fnExactMsgReadUptoRow.laidByTextAt .later Tryd.pinned [.sentinel, .sentinel, .sentinel, .sentinel, .sentinel] true :=
  OpenClaim.laidByTextAt_later rfl rfl tie noOwnUnsafe
end Go.Proofs.YtonpahhcfgdeoaaDoor
