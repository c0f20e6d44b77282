/- The walk of the law FnExactTrmSame. -/
import Derived.Test.YtcbgpoofepchmaaW7
import Derived.Test.YtcbgpoofepchmaaOpen
namespace Go.Proofs.Ytcbgpoofepchmaa
open Go.RowKit
set_option linter.unusedVariables false
set_option linter.unusedSimpArgs false

set_option maxHeartbeats 1000000 in
theorem FnExactTrmSame_walk (ao : Option Addr) (cap : Nat) (t : List C) (bo : Option Addr) (cap' : Nat) (u : List C) (w : World)
    (hm : t.length ≤ maxLen) (hA : Row w ao t) (hF : Fit t) (hw : WfC t) (hm' : u.length ≤ maxLen) (hU : Row w bo u) (hF' : Fit u) (hw' : WfC u) :
    Calls Try.prog 17 #[.slice ao t.length cap, .slice bo u.length cap'] w fun e w' => e = .returned (.bool true) ∧ Below w.heap.size w w' := by
  go_enter Try.func17, Try.ntmps17
  go_wp2_with fail
  refine (szTrmCellS_any ao cap t 1048576 _ hm hA hF (by omega) (by omega)).mono ?_
  rintro e w1 ⟨r, rfl, hr, hb1⟩
  by_cases hr0 : r < 0
  · go_wp2
    go_ret
    exact ⟨rfl, hb1⟩
  have hlen : t.length ≤ 1048576 := by omega
  have hR1 := hA.below hb1
  have hS1 := hU.below hb1
  go_wp2_with fail
  refine (szTrmCellS_any bo cap' u r _ hm' hS1 hF' (by omega) (by omega)).mono ?_
  rintro e w2 ⟨r', rfl, hr', hb2⟩
  have hB2 := bstep hb1 hb2
  have hR2 := hR1.below hb2
  have hS2 := hS1.below hb2
  by_cases hr0' : r' < 0
  · go_wp2
    go_ret
    exact ⟨rfl, hB2⟩
  have hlen' : u.length ≤ 1048576 := by omega
  go_wp2_with fail
  refine (toTrmCellS_any ao cap t _ hlen hR2).mono ?_
  rintro e w3 ⟨rfl, ho3, hb3⟩
  have hB3 := bstep hB2 hb3
  have hR3 := hR2.below hb3
  have hS3 := hS2.below hb3
  have hX3 := row_of_own ho3
  go_wp2_with fail
  refine (toTrmCellS_any bo cap' u _ hlen' hS3).mono ?_
  rintro e w4 ⟨rfl, ho4, hb4⟩
  have hB4 := bstep hB3 hb4
  have hR4 := hR3.below hb4
  have hS4 := hS3.below hb4
  have hX4 := hX3.below hb4
  have hY4 := row_of_own ho4
  go_wp2_with fail
  refine (specTrmSame_any _ _ _ _ t u _ hm hX4 hY4).mono ?_
  rintro e w5 ⟨rfl, hb5⟩
  have hB5 := bstep hB4 hb5
  have hR5 := hR4.below hb5
  have hS5 := hS4.below hb5
  go_wp2_with fail
  refine (toTrmCellS_any ao cap t _ hlen hR5).mono ?_
  rintro e w6 ⟨rfl, ho6, hb6⟩
  have hB6 := bstep hB5 hb6
  have hR6 := hR5.below hb6
  have hS6 := hS5.below hb6
  have hX6 := row_of_own ho6
  go_wp2_with fail
  refine (toTrmCellS_any bo cap' u _ hlen' hS6).mono ?_
  rintro e w7 ⟨rfl, ho7, hb7⟩
  have hB7 := bstep hB6 hb7
  have hR7 := hR6.below hb7
  have hS7 := hS6.below hb7
  have hX7 := hX6.below hb7
  have hY7 := row_of_own ho7
  go_wp2_with fail
  refine (TrmSame_any _ _ _ _ t u _ hm hX7 hY7).mono ?_
  rintro e w8 ⟨rfl, hb8⟩
  have hB8 := bstep hB7 hb8
  have hR8 := hR7.below hb8
  have hS8 := hS7.below hb8
  have hX8 := hX7.below hb8
  have hY8 := hY7.below hb8
  go_wp2_with fail
  refine (toTrmCellS_any ao cap t _ hlen hR8).mono ?_
  rintro e w9 ⟨rfl, ho9, hb9⟩
  have hB9 := bstep hB8 hb9
  have hS9 := hS8.below hb9
  have hX9 := hX8.below hb9
  have hY9 := hY8.below hb9
  go_wp2_with fail
  refine (eqTrmCellS_any _ _ _ _ t t _ hm hX9 (row_of_own ho9)).mono ?_
  rw [sameS_yes rfl]
  rintro e w10 ⟨rfl, hb10⟩
  have hB10 := bstep hB9 hb10
  have hS10 := hS9.below hb10
  have hY10 := hY9.below hb10
  go_wp2_with fail
  refine (toTrmCellS_any bo cap' u _ hlen' hS10).mono ?_
  rintro e w11 ⟨rfl, ho11, hb11⟩
  have hB11 := bstep hB10 hb11
  have hY11 := hY10.below hb11
  go_wp2_with fail
  refine (eqTrmCellS_any _ _ _ _ u u _ hm' hY11 (row_of_own ho11)).mono ?_
  rw [sameS_yes rfl]
  rintro e w12 ⟨rfl, hb12⟩
  go_wp2
  go_ret
  exact ⟨rfl, bstep hB11 hb12⟩
end Go.Proofs.Ytcbgpoofepchmaa
