/- The walk of the law FnExactTrmShift. -/
import Derived.Test.YtddhjafpacgdaaaW14
import Derived.Test.YtddhjafpacgdaaaT8
namespace Go.Proofs.Ytddhjafpacgdaaa
open Go.RowKit
set_option linter.unusedVariables false
set_option linter.unusedSimpArgs false

set_option maxHeartbeats 1000000 in
theorem FnExactTrmShift_walk (ao : Option Addr) (cap : Nat) (t : List C) (x : Int) (w : World) (hm : t.length ≤ maxLen) (hA : Row w ao t) (hF : Fit t) (hw : WfC t) (hx : (Lit.int .i64 x).wf = true) :
    Calls Try.prog 18 #[.slice ao t.length cap, .int .i64 x] w fun e w' => e = .returned (.bool true) ∧ Below w.heap.size w w' := by
  go_enter Try.func18, Try.ntmps18
  go_wp2_with fail
  refine (szTrmCellS_any ao cap t 1048576 _ hm hA hF (by omega) (by omega)).mono ?_
  rintro e w1 ⟨r, rfl, hr, hb1⟩
  by_cases hr0 : r < 0
  · go_wp2
    go_ret
    exact ⟨rfl, hb1⟩
  have hlen : t.length ≤ 1048576 := by omega
  have hfl : (shiftOf t x).length ≤ 1048576 := (Nat.le_trans (shiftOf_len t x) hlen)
  clear hr
  go_wp2_with fail
  refine (toTrmCellS_any ao cap t _ hlen (hA.below hb1)).mono ?_
  rintro e w2 ⟨rfl, ho2, hb2⟩
  have hB2 := bstep hb1 hb2
  go_wp2_with fail
  refine (specTrmShift_any _ _ t x _ (by unfold maxLen; omega) (row_of_own ho2) hF).mono ?_
  rintro e w3 ⟨v0, rfl, hv0, hb3⟩
  have hB3 := bstep hB2 hb3
  obtain ⟨ao0, cap0, rfl, _⟩ := hv0.shape
  obtain ⟨z, hz⟩ : ∃ z, z = shiftOf t x := ⟨_, rfl⟩
  rw [← hz] at hv0 hfl
  rw [← hz]
  have HZ := hide hz
  clear hz
  have hzm : z.length ≤ maxLen := by unfold maxLen; omega
  go_wp2_with fail
  refine (toTrmCellS_any ao cap t _ hlen (hA.below hB3)).mono ?_
  rintro e w4 ⟨rfl, ho4, hb4⟩
  have hB4 := bstep hB3 hb4
  go_wp2_with fail
  refine (TrmShift_any _ _ t x _ (by unfold maxLen; omega) (Nat.le_refl _) (by unfold maxLen; omega) (row_of_own ho4) hF).mono ?_
  rw [← unhide HZ]
  rintro e w5 ⟨v1, rfl, hv1, hb5⟩
  have hB5 := bstep hB4 hb5
  have hC5 := bstep hb4 hb5
  obtain ⟨ao1, cap1, rfl, _⟩ := hv1.shape
  go_wp2_with fail
  refine (eqTrmCellS_any _ _ _ _ z z _ hzm hv1.row (hv0.below hC5).row).mono ?_
  rw [sameS_yes rfl]
  rintro e w6 ⟨rfl, hb6⟩
  have hB6 := bstep hB5 hb6
  have hC6 := bstep hC5 hb6
  go_wp2_with fail
  refine (toTrmCellS_any ao cap t _ hlen (hA.below hB6)).mono ?_
  rintro e w7 ⟨rfl, ho7, hb7⟩
  have hB7 := bstep hB6 hb7
  have hC7 := bstep hC6 hb7
  have hx7 := own_below (toC (n := 0) ho4) (bstep (bstep hb5 hb6) hb7)
  go_wp2_with fail
  refine (eqTrmCellS_any _ _ _ _ t t _ hm (OwnC.row hx7) (row_of_own ho7)).mono ?_
  rw [sameS_yes rfl]
  rintro e w8 ⟨rfl, hb8⟩
  have hB8 := bstep hB7 hb8
  have hC8 := bstep hC7 hb8
  have hx8 : OwnC w8 w3.heap.size (.slice (some ⟨w3.heap.size, 0, none⟩) t.length t.length) t := own_below hx7 hb8
  have hg8 := hv1.below (bstep (bstep hb6 hb7) hb8)
  go_wp2_with fail
  refine (markTrmCellS_one _ _ t w3.heap.size _ hlen hx8).mono ?_
  rintro e w9 ⟨rfl, hx9, hG9⟩
  have hB9 := below_row hB8 hG9 hx8 (by exact hB3.size)
  have hC9 := below_row hC8 hG9 hx8 (Nat.le_refl _)
  have hg9 : OwnC w9 w4.heap.size (.slice ao1 z.length cap1) z := own_apart hg8 hG9 (fun k e => .inl (by have := hb4.size; have := ho4.lt k e; omega))
  have hpos : ¬ ((1 + 3 * (t.length : Int)) < 0) := by omega
  go_wp2_with fail
  refine (eqTrmCellS_any _ _ _ _ z z _ hzm hg9.row (hv0.below hC9).row).mono ?_
  rw [sameS_yes rfl]
  rintro e w10 ⟨rfl, hb10⟩
  have hB10 := bstep hB9 hb10
  have hC10 := bstep hC9 hb10
  have hg10 := hg9.below hb10
  go_wp2_with fail
  refine (markTrmCellS_one _ _ z w4.heap.size _ hfl hg10).mono ?_
  rintro e w11 ⟨rfl, hg11, hG11⟩
  have hB11 := below_row hB10 hG11 hg10 (by exact hB4.size)
  have hC11 := below_row hC10 hG11 hg10 (by exact hb4.size)
  go_wp2_with fail
  refine (heldTrmCellS_one _ _ z.length _ hfl hg11.row).mono ?_
  rintro e w12 ⟨rfl, hb12⟩
  have hB12 := bstep hB11 hb12
  have hC12 := bstep hC11 hb12
  have hg12 := hg11.below hb12
  have hne2 : ((1 + 3 * (z.length : Int)) != (1 + 3 * (z.length : Int))) = false := by simp
  go_wp2_with fail
  refine (toTrmCellS_any ao cap t _ hlen (hA.below hB12)).mono ?_
  rintro e w13 ⟨rfl, ho13, hb13⟩
  have hB13 := bstep hB12 hb13
  have hC13 := bstep hC12 hb13
  go_wp2_with fail
  refine (TrmShift_any _ _ t x _ (by unfold maxLen; omega) (Nat.le_refl _) (by unfold maxLen; omega) (row_of_own ho13) hF).mono ?_
  rw [← unhide HZ]
  rintro e w14 ⟨v2, rfl, hv2, hb14⟩
  have hB14 := bstep hB13 hb14
  have hC14 := bstep hC13 hb14
  obtain ⟨ao2, cap2, rfl, _⟩ := hv2.shape
  go_wp2_with fail
  refine (eqTrmCellS_any _ _ _ _ z z _ hzm hv2.row (hv0.below hC14).row).mono ?_
  rw [sameS_yes rfl]
  rintro e w15 ⟨rfl, hb15⟩
  have hB15 := bstep hB14 hb15
  have hg15 := hg12.below (bstep (bstep hb13 hb14) hb15)
  go_wp2_with fail
  refine (heldTrmCellS_one _ _ z.length _ hfl hg15.row).mono ?_
  rintro e w16 ⟨rfl, hb16⟩
  have hB16 := bstep hB15 hb16
  go_wp2
  go_ret
  exact ⟨rfl, hB16⟩
end Go.Proofs.Ytddhjafpacgdaaa
