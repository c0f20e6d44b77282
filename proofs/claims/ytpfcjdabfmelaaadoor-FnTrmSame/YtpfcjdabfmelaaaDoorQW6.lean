/- eqTrmCellS of whatever places; the walk of the law FnExactTrmOk. -/
import Derived.Test.YtpfcjdabfmelaaaDoorQW4
import Derived.Test.YtpfcjdabfmelaaaDoorQW5
namespace Go.Proofs.YtpfcjdabfmelaaaDoor
open Go.RowKit
set_option linter.unusedVariables false
set_option linter.unusedSimpArgs false

theorem row_of_own {w : World} {base e g cap : Nat} {t : List C} (h : w.ownsRow base e 3 (.slice (some ⟨g, 0, none⟩) t.length cap) t.length (flat t)) : Row w (some ⟨g, 0, none⟩) t :=
  .inr ⟨g, 0, rfl, owns_at h rfl⟩

end Go.Proofs.YtpfcjdabfmelaaaDoor
