/- The walk of the law FnExactTrmFree. -/
import Derived.Test.YtjinbinnjpjniaaW6
import Derived.Test.YtjinbinnjpjniaaW13
namespace Go.Proofs.Ytjinbinnjpjniaa
open Go.RowKit
set_option linter.unusedVariables false
set_option linter.unusedSimpArgs false

theorem toC {w' : World} {base : Nat} {g n : Nat} {t : List C} (h : w'.ownsRow base 55 3 (.slice (some ⟨g, 0, none⟩) t.length t.length) t.length (flat t)) : OwnC w' base (.slice (some ⟨g, 0, none⟩) t.length t.length) t := h

end Go.Proofs.Ytjinbinnjpjniaa
