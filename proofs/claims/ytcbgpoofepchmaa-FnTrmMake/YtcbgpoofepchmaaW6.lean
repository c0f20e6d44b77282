/- eqTrmCellS of whatever places; the walk of the law FnExactTrmOk. -/
import Derived.Test.YtcbgpoofepchmaaW4
import Derived.Test.YtcbgpoofepchmaaW5
namespace Go.Proofs.Ytcbgpoofepchmaa
open Go.RowKit
set_option linter.unusedVariables false
set_option linter.unusedSimpArgs false

set_option maxHeartbeats 400000 in
theorem eqTrmCellS_far (ao bo : Option Addr) (n m cap cap' : Nat) (w : World) (hl : n ≠ m) :
    Calls Try.prog 41 #[.slice ao n cap, .slice bo m cap'] w fun e w' => e = .returned (.bool false) ∧ Below w.heap.size w w' := by
  have hne : ((n : Int) != (m : Int)) = true := by rw [bne_iff_ne]; omega
  go_enter Try.func41, Try.ntmps41
  go_wp2
  go_ret
  exact ⟨rfl, Below.refl _ _⟩

set_option maxHeartbeats 400000 in
theorem eqTrmCellS_none (ao bo : Option Addr) (cap cap' : Nat) (w : World) :
    Calls Try.prog 41 #[.slice ao 0 cap, .slice bo 0 cap'] w fun e w' => e = .returned (.bool true) ∧ Below w.heap.size w w' := by
  go_enter Try.func41, Try.ntmps41
  go_wp2
  refine wp_loop_rounds 1 ?_
  rw [rounds_succ]
  go_wp2
  go_ret
  exact ⟨rfl, Below.refl _ _⟩

/-- Whether two lists of places are the same. -/
theorem eqTrmCellS_any (ao bo : Option Addr) (cap cap' : Nat) (t u : List C) (w : World) (hm : t.length ≤ maxLen) (hA : Row w ao t) (hU : Row w bo u) :
    Calls Try.prog 41 #[.slice ao t.length cap, .slice bo u.length cap'] w fun e w' => e = .returned (.bool (sameS t u)) ∧ Below w.heap.size w w' := by
  by_cases hl : t.length = u.length
  · rcases hA with rfl | ⟨b, off, rfl, hA⟩
    · have hu : u = [] := List.length_eq_zero_iff.1 hl.symm
      subst hu
      exact eqTrmCellS_none ao bo cap cap' w
    · rcases hU with rfl | ⟨b', off', rfl, hU⟩
      · have ht : t = [] := List.length_eq_zero_iff.1 hl
        subst ht
        exact eqTrmCellS_none _ bo cap cap' w
      · exact eqTrmCellS_some b off cap b' off' cap' t u w hm hA hU hl
  · rw [sameS_no (fun h => hl (by rw [h]))]
    exact eqTrmCellS_far ao bo _ _ cap cap' w hl

theorem row_of_own {w : World} {base e g cap : Nat} {t : List C} (h : w.ownsRow base e 3 (.slice (some ⟨g, 0, none⟩) t.length cap) t.length (flat t)) : Row w (some ⟨g, 0, none⟩) t :=
  .inr ⟨g, 0, rfl, owns_at h rfl⟩

set_option maxHeartbeats 1000000 in
theorem FnExactTrmOk_walk (ao : Option Addr) (cap : Nat) (t : List C) (w : World) (hm : t.length ≤ maxLen) (hA : Row w ao t) (hF : Fit t) :
    Calls Try.prog 11 #[.slice ao t.length cap] w fun e w' => e = .returned (.bool true) ∧ Below w.heap.size w w' := by
  go_enter Try.func11, Try.ntmps11
  go_wp2_with fail
  refine (szTrmCellS_any ao cap t 1048576 _ hm hA hF (by omega) (by omega)).mono ?_
  rintro e w1 ⟨r, rfl, hr, hb1⟩
  by_cases hr0 : r < 0
  · go_wp2
    go_ret
    exact ⟨rfl, hb1⟩
  · have hlen : t.length ≤ 1048576 := by omega
    have hR1 := hA.below hb1
    go_wp2_with fail
    refine (toTrmCellS_any ao cap t _ hlen hR1).mono ?_
    rintro e w2 ⟨rfl, ho2, hb2⟩
    have hB2 := bstep hb1 hb2
    have hR2 := hR1.below hb2
    go_wp2_with fail
    refine (specTrmOk_any _ _ t _ hm (row_of_own ho2) hF).mono ?_
    rintro e w3 ⟨rfl, hb3⟩
    have hB3 := bstep hB2 hb3
    have hR3 := hR2.below hb3
    go_wp2_with fail
    refine (toTrmCellS_any ao cap t _ hlen hR3).mono ?_
    rintro e w4 ⟨rfl, ho4, hb4⟩
    have hB4 := bstep hB3 hb4
    have hR4 := hR3.below hb4
    have hX4 := row_of_own ho4
    go_wp2_with fail
    refine (TrmOk_any _ _ t _ hm hX4 hF).mono ?_
    rintro e w5 ⟨rfl, hb5⟩
    have hB5 := bstep hB4 hb5
    have hR5 := hR4.below hb5
    have hX5 := hX4.below hb5
    go_wp2_with fail
    refine (toTrmCellS_any ao cap t _ hlen hR5).mono ?_
    rintro e w6 ⟨rfl, ho6, hb6⟩
    have hB6 := bstep hB5 hb6
    have hX6 := hX5.below hb6
    go_wp2_with fail
    refine (eqTrmCellS_any _ _ _ _ t t _ hm hX6 (row_of_own ho6)).mono ?_
    rw [sameS_yes rfl]
    rintro e w7 ⟨rfl, hb7⟩
    have hB7 := bstep hB6 hb7
    go_wp2
    go_ret
    exact ⟨rfl, hB7⟩
end Go.Proofs.Ytcbgpoofepchmaa
