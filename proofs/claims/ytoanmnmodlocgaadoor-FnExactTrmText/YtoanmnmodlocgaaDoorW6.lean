/- eqTrmCellS of whatever places; the walk of the law FnExactTrmOk. -/
import Derived.Test.YtoanmnmodlocgaaDoorW4
import Derived.Test.YtoanmnmodlocgaaDoorW5
namespace Go.Proofs.YtoanmnmodlocgaaDoor
open Go.RowKit
set_option linter.unusedVariables false
set_option linter.unusedSimpArgs false

set_option maxHeartbeats 400000 in
theorem eqTrmCellS_far (ao bo : Option Addr) (n m cap cap' : Nat) (w : World) (hl : n ≠ m) :
    Calls Tryd.prog 19 #[.slice ao n cap, .slice bo m cap'] w fun e w' => e = .returned (.bool false) ∧ Below w.heap.size w w' := by
  have hne : ((n : Int) != (m : Int)) = true := by rw [bne_iff_ne]; omega
  go_enter Tryd.func19, Tryd.ntmps19
  go_wp2
  go_ret
  exact ⟨rfl, Below.refl _ _⟩

set_option maxHeartbeats 400000 in
theorem eqTrmCellS_none (ao bo : Option Addr) (cap cap' : Nat) (w : World) :
    Calls Tryd.prog 19 #[.slice ao 0 cap, .slice bo 0 cap'] w fun e w' => e = .returned (.bool true) ∧ Below w.heap.size w w' := by
  go_enter Tryd.func19, Tryd.ntmps19
  go_wp2
  refine wp_loop_rounds 1 ?_
  rw [rounds_succ]
  go_wp2
  go_ret
  exact ⟨rfl, Below.refl _ _⟩

/-- Whether two lists of places are the same. -/
theorem eqTrmCellS_any (ao bo : Option Addr) (cap cap' : Nat) (t u : List C) (w : World) (hm : t.length ≤ maxLen) (hA : Row w ao t) (hU : Row w bo u) :
    Calls Tryd.prog 19 #[.slice ao t.length cap, .slice bo u.length cap'] w fun e w' => e = .returned (.bool (sameS t u)) ∧ Below w.heap.size w w' := by
  by_cases hl : t.length = u.length
  · rcases hA with rfl | ⟨b, off, rfl, hA⟩
    · have hu : u = [] := List.length_eq_zero_iff.1 hl.symm
      subst hu
      exact eqTrmCellS_none ao bo cap cap' w
    · rcases hU with rfl | ⟨b', off', rfl, hU⟩
      · have ht : t = [] := List.length_eq_zero_iff.1 hl
        subst ht
        exact eqTrmCellS_none _ bo cap cap' w
      · exact eqTrmCellS_some b off cap b' off' cap' t u w hm hA hU hl
  · rw [sameS_no (fun h => hl (by rw [h]))]
    exact eqTrmCellS_far ao bo _ _ cap cap' w hl

theorem row_of_own {w : World} {base e g cap : Nat} {t : List C} (h : w.ownsRow base e 3 (.slice (some ⟨g, 0, none⟩) t.length cap) t.length (flat t)) : Row w (some ⟨g, 0, none⟩) t :=
  .inr ⟨g, 0, rfl, owns_at h rfl⟩

end Go.Proofs.YtoanmnmodlocgaaDoor
