/- PrgOk of the program; the walk of FnExactPrgOk. -/
import Derived.Test.YtpfoaleehdiahaaQQI10
import Derived.Test.YtpfoaleehdiahaaQQP6
import Derived.Test.YtpfoaleehdiahaaQQP4
import Derived.Test.YtpfoaleehdiahaaQQP3
import Derived.Test.YtpfoaleehdiahaaQQP2
import Derived.Deep.RegionHeld3
namespace Go.Proofs.Ytpfoaleehdiahaa
open Go.RowKit Go.Shelf
set_option linter.unusedVariables false
set_option linter.unusedSimpArgs false

theorem pgV_sl {w : World} {x : Pg} {v0 v1 : Value} (h : PgV w x v0 v1) : ∃ a0 n0 c0 a1 n1 c1, v0 = .slice a0 n0 c0 ∧ v1 = .slice a1 n1 c1 := by
  obtain ⟨⟨p1, p2, p3, _⟩, ⟨q1, q2, q3, _⟩⟩ := h
  exact ⟨_, _, _, _, _, _, p3, q3⟩

end Go.Proofs.Ytpfoaleehdiahaa
