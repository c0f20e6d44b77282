import Derived.Test.YtmelmlkogaageaaQW6SB2
import Derived.Test.YtmelmlkogaageaaQW13
import Derived.Test.YtmelmlkogaageaaQSG1
import Derived.Test.YtmelmlkogaageaaQSB5
/- The walk of the law FnExactTrmFree. -/
namespace Go.Proofs.Ytmelmlkogaageaa
open Go.RowKit
set_option linter.unusedVariables false
set_option linter.unusedSimpArgs false

theorem toC {w' : World} {base : Nat} {g n : Nat} {t : List C} (h : w'.ownsRow base 46 3 (.slice (some ⟨g, 0, none⟩) t.length t.length) t.length (flat t)) : OwnC w' base (.slice (some ⟨g, 0, none⟩) t.length t.length) t := h

end Go.Proofs.Ytmelmlkogaageaa

/- The walk of the law FnExactSubGet. -/
namespace Go.Proofs.Ytmelmlkogaageaa
open Go.RowKit
set_option linter.unusedVariables false
set_option linter.unusedSimpArgs false

theorem own_btw {w w' : World} {base e size n lo hi : Nat} {v : Value} {xs : List Value} (h : w.ownsRow base e size v n xs) (hb : Btw lo hi w w') (hr : hi ≤ base ∨ w.heap.size ≤ lo) : w'.ownsRow base e size v n xs :=
  own_block h (fun k e => hb.block k (h.lt k e).2 (by have := h.lt k e; omega))

set_option maxRecDepth 100000 in
set_option maxHeartbeats 1000000 in
theorem FnExactSubGet_walk (ao : Option Addr) (cap : Nat) (s : List B) (x : Int) (w : World) (hm : s.length ≤ maxLen) (hA : RowB w ao s) (hF : FitB s) (hx : (Lit.int .i64 x).wf = true) :
    Calls Try.prog 16 #[.slice ao s.length cap, .int .i64 x] w fun e w' => e = .returned (.bool true) ∧ Below w.heap.size w w' := by
  go_enter Try.func16, Try.ntmps16
  go_wp2_with fail
  refine (szSubBindS_any ao cap s 1048576 _ hm hA hF (by omega) (by omega)).mono ?_
  rintro e w1 ⟨r, rfl, hr, hb1⟩
  by_cases hr0 : r < 0
  · go_wp2
    go_ret
    exact ⟨rfl, hb1⟩
  have hlen : s.length + tot s ≤ 1048576 := by omega
  have hlen1 : s.length ≤ 1048576 := by omega
  have hlen2 : ∀ x ∈ s, x.t.length ≤ 1048576 := fun x hx => by have := tot_mem hx; omega
  have hfl : (getB s x).length ≤ 1048576 := by
    by_cases h0 : getB s x = []
    · rw [h0]; simp
    · obtain ⟨y, hy, _, e⟩ := getB_mem h0
      rw [← e]; exact hlen2 y hy
  have HL2 := hide hlen2
  clear hr hlen2
  go_wp2_with fail
  refine (toSubBindS_any ao cap s _ hlen1 (unhide HL2) (hA.below hb1)).mono ?_
  rintro e w2 ⟨rfl, ho2, hb2⟩
  have hB2 := bstep hb1 hb2
  go_wp2_with fail
  refine (specSubGet_any _ _ s x _ hlen1 (unhide HL2) ho2.row).mono ?_
  rintro e w3 ⟨v0, rfl, hv0, hb3⟩
  have hB3 := bstep hB2 hb3
  obtain ⟨ao0, cap0, rfl, _⟩ := hv0.shape
  obtain ⟨z, hz⟩ : ∃ z, z = getB s x := ⟨_, rfl⟩
  rw [← hz] at hv0 hfl
  rw [← hz]
  have HZ := hide hz
  clear hz
  have hzm : z.length ≤ maxLen := by unfold maxLen; omega
  go_wp2_with fail
  refine (toSubBindS_any ao cap s _ hlen1 (unhide HL2) (hA.below hB3)).mono ?_
  rintro e w4 ⟨rfl, ho4, hb4⟩
  have hB4 := bstep hB3 hb4
  go_wp2_with fail
  refine (implSubGet_any _ _ s x _ hlen1 (unhide HL2) ho4.row).mono ?_
  rw [← unhide HZ]
  rintro e w5 ⟨v1, rfl, hv1, hb5⟩
  have hB5 := bstep hB4 hb5
  have hC5 := bstep hb4 hb5
  obtain ⟨ao1, cap1, rfl, _⟩ := hv1.shape
  go_wp2_with fail
  refine (eqTrmCellS_any _ _ _ _ z z _ hzm hv1.row (hv0.below hC5).row).mono ?_
  rw [sameS_yes rfl]
  rintro e w6 ⟨rfl, hb6⟩
  have hB6 := bstep hB5 hb6
  have hC6 := bstep hC5 hb6
  go_wp2_with fail
  refine (toSubBindS_any ao cap s _ hlen1 (unhide HL2) (hA.below hB6)).mono ?_
  rintro e w7 ⟨rfl, ho7, hb7⟩
  have hB7 := bstep hB6 hb7
  have hC7 := bstep hC6 hb7
  have hx7 := ho4.below (Nat.le_refl _) (bstep (bstep hb5 hb6) hb7)
  go_wp2_with fail
  refine (eqSubBindS_yes _ _ _ _ s _ hm hx7.row ho7.row).mono ?_
  rintro e w8 ⟨rfl, hb8⟩
  have hB8 := bstep hB7 hb8
  have hC8 := bstep hC7 hb8
  have hx8 := ho4.below (Nat.le_refl _) (bstep (bstep (bstep hb5 hb6) hb7) hb8)
  have hg8 := hv1.below (bstep (bstep hb6 hb7) hb8)
  go_wp2_with fail
  refine (markSubBindS_one _ _ _ _ s _ hlen hx8).mono ?_
  rintro e w9 ⟨rfl, hx9, hG9⟩
  have hB9 := Btw.below hB8 hG9 hB3.size
  have hC9 := Btw.below hC8 hG9 (Nat.le_refl _)
  have hg9 : OwnC w9 w4.heap.size (.slice ao1 z.length cap1) z := own_btw hg8 hG9 (.inl (Nat.le_refl _))
  have hpos : ¬ (((endM s 1 : Nat) : Int) < 0) := by omega
  go_wp2_with fail
  refine (eqTrmCellS_any _ _ _ _ z z _ hzm hg9.row (hv0.below hC9).row).mono ?_
  rw [sameS_yes rfl]
  rintro e w10 ⟨rfl, hb10⟩
  have hB10 := bstep hB9 hb10
  have hC10 := bstep hC9 hb10
  have hg10 := hg9.below hb10
  go_wp2_with fail
  refine (markTrmCellS_one _ _ z w4.heap.size _ hfl hg10).mono ?_
  rintro e w11 ⟨rfl, hg11, hG11⟩
  have hB11 := below_row hB10 hG11 hg10 (by exact hB4.size)
  have hC11 := below_row hC10 hG11 hg10 (by exact hb4.size)
  have hpos2 : ¬ ((1 + 3 * (z.length : Int)) < 0) := by omega
  go_wp2_with fail
  refine (heldTrmCellS_one _ _ z.length _ hfl hg11.row).mono ?_
  rintro e w12 ⟨rfl, hb12⟩
  have hB12 := bstep hB11 hb12
  have hC12 := bstep hC11 hb12
  have hg12 := hg11.below hb12
  have hne2 : ((1 + 3 * (z.length : Int)) != (1 + 3 * (z.length : Int))) = false := by simp
  go_wp2_with fail
  refine (toSubBindS_any ao cap s _ hlen1 (unhide HL2) (hA.below hB12)).mono ?_
  rintro e w13 ⟨rfl, ho13, hb13⟩
  have hB13 := bstep hB12 hb13
  have hC13 := bstep hC12 hb13
  go_wp2_with fail
  refine (implSubGet_any _ _ s x _ hlen1 (unhide HL2) ho13.row).mono ?_
  rw [← unhide HZ]
  rintro e w14 ⟨v2, rfl, hv2, hb14⟩
  have hB14 := bstep hB13 hb14
  have hC14 := bstep hC13 hb14
  obtain ⟨ao2, cap2, rfl, _⟩ := hv2.shape
  go_wp2_with fail
  refine (eqTrmCellS_any _ _ _ _ z z _ hzm hv2.row (hv0.below hC14).row).mono ?_
  rw [sameS_yes rfl]
  rintro e w15 ⟨rfl, hb15⟩
  have hB15 := bstep hB14 hb15
  have hg15 := hg12.below (bstep (bstep hb13 hb14) hb15)
  go_wp2_with fail
  refine (heldTrmCellS_one _ _ z.length _ hfl hg15.row).mono ?_
  rintro e w16 ⟨rfl, hb16⟩
  have hB16 := bstep hB15 hb16
  go_wp2
  go_ret
  exact ⟨rfl, hB16⟩
end Go.Proofs.Ytmelmlkogaageaa
