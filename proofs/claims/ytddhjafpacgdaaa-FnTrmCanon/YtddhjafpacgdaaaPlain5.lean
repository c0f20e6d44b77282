/- The plain mathematics of terms, more: what is numbered as it comes first stays so. -/
import Derived.Test.YtddhjafpacgdaaaPlain6
import Derived.Test.YtddhjafpacgdaaaT8
namespace Go.Proofs.Ytddhjafpacgdaaa
set_option linter.unusedVariables false
set_option linter.unusedSimpArgs false

theorem canon_shift (t : List C) (n : Int) : canonOf (t.map (shiftC n)) = canonOf t := canonOf_ren (f := fun x => x + n) (fun x y e => by omega) t

end Go.Proofs.Ytddhjafpacgdaaa
