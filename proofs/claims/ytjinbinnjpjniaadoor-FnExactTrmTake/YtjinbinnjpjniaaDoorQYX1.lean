/- The walk of FnExactMsgSum. -/
import Derived.Test.YtjinbinnjpjniaaDoorQYS1
import Derived.Test.YtjinbinnjpjniaaDoorQYW1
namespace Go.Proofs.YtjinbinnjpjniaaDoor
open Go.RowKit
set_option linter.unusedVariables false
set_option linter.unusedSimpArgs false

theorem rowY_of_own {w : World} {base g : Nat} {n cap : Nat} {z : List Int} (h : w.ownsRow base 5 1 (.slice (some ⟨g, 0, none⟩) n cap) n (bys z)) (hn : n = z.length) : RowY w (some ⟨g, 0, none⟩) z := .inr ⟨g, 0, rfl, ownsY_at h hn⟩

end Go.Proofs.YtjinbinnjpjniaaDoor
