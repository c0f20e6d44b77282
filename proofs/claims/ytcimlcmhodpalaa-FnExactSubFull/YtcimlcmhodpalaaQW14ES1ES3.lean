import Derived.Test.YtcimlcmhodpalaaQW6SB2
import Derived.Test.YtcimlcmhodpalaaQW13
import Derived.Test.YtcimlcmhodpalaaQSG1
import Derived.Test.YtcimlcmhodpalaaQSB5
import Derived.Test.YtcimlcmhodpalaaQFL4FL8
/- The walk of the law FnExactTrmFree. -/
namespace Go.Proofs.Ytcimlcmhodpalaa
open Go.RowKit
set_option linter.unusedVariables false
set_option linter.unusedSimpArgs false

theorem toC {w' : World} {base : Nat} {g n : Nat} {t : List C} (h : w'.ownsRow base 36 3 (.slice (some ⟨g, 0, none⟩) t.length t.length) t.length (flat t)) : OwnC w' base (.slice (some ⟨g, 0, none⟩) t.length t.length) t := h

end Go.Proofs.Ytcimlcmhodpalaa

/- The walk of the law FnExactSubGet. -/
namespace Go.Proofs.Ytcimlcmhodpalaa
open Go.RowKit
set_option linter.unusedVariables false
set_option linter.unusedSimpArgs false

theorem own_btw {w w' : World} {base e size n lo hi : Nat} {v : Value} {xs : List Value} (h : w.ownsRow base e size v n xs) (hb : Btw lo hi w w') (hr : hi ≤ base ∨ w.heap.size ≤ lo) : w'.ownsRow base e size v n xs :=
  own_block h (fun k e => hb.block k (h.lt k e).2 (by have := h.lt k e; omega))

set_option maxRecDepth 100000 in
set_option maxHeartbeats 1000000 in
theorem FnExactSubGet_walk (ao : Option Addr) (cap : Nat) (s : List B) (x : Int) (w : World) (hm : s.length ≤ maxLen) (hA : RowB w ao s) (hF : FitB s) (hx : (Lit.int .i64 x).wf = true) :
    Calls Try.prog 19 #[.slice ao s.length cap, .int .i64 x] w fun e w' => e = .returned (.bool true) ∧ Below w.heap.size w w' := by
  go_enter Try.func19, Try.ntmps19
  go_wp2_with fail
  refine (szSubBindS_any ao cap s 1048576 _ hm hA hF (by omega) (by omega)).mono ?_
  rintro e w1 ⟨r, rfl, hr, hb1⟩
  by_cases hr0 : r < 0
  · go_wp2
    go_ret
    exact ⟨rfl, hb1⟩
  have hlen : s.length + tot s ≤ 1048576 := by omega
  have hlen1 : s.length ≤ 1048576 := by omega
  have hlen2 : ∀ x ∈ s, x.t.length ≤ 1048576 := fun x hx => by have := tot_mem hx; omega
  have hfl : (getB s x).length ≤ 1048576 := by
    by_cases h0 : getB s x = []
    · rw [h0]; simp
    · obtain ⟨y, hy, _, e⟩ := getB_mem h0
      rw [← e]; exact hlen2 y hy
  have HL2 := hide hlen2
  clear hr hlen2
  go_wp2_with fail
  refine (toSubBindS_any ao cap s _ hlen1 (unhide HL2) (hA.below hb1)).mono ?_
  rintro e w2 ⟨rfl, ho2, hb2⟩
  have hB2 := bstep hb1 hb2
  go_wp2_with fail
  refine (specSubGet_any _ _ s x _ hlen1 (unhide HL2) ho2.row).mono ?_
  rintro e w3 ⟨v0, rfl, hv0, hb3⟩
  have hB3 := bstep hB2 hb3
  obtain ⟨ao0, cap0, rfl, _⟩ := hv0.shape
  obtain ⟨z, hz⟩ : ∃ z, z = getB s x := ⟨_, rfl⟩
  rw [← hz] at hv0 hfl
  rw [← hz]
  have HZ := hide hz
  clear hz
  have hzm : z.length ≤ maxLen := by unfold maxLen; omega
  go_wp2_with fail
  refine (toSubBindS_any ao cap s _ hlen1 (unhide HL2) (hA.below hB3)).mono ?_
  rintro e w4 ⟨rfl, ho4, hb4⟩
  have hB4 := bstep hB3 hb4
  go_wp2_with fail
  refine (implSubGet_any _ _ s x _ hlen1 (unhide HL2) ho4.row).mono ?_
  rw [← unhide HZ]
  rintro e w5 ⟨v1, rfl, hv1, hb5⟩
  have hB5 := bstep hB4 hb5
  have hC5 := bstep hb4 hb5
  obtain ⟨ao1, cap1, rfl, _⟩ := hv1.shape
  go_wp2_with fail
  refine (eqTrmCellS_any _ _ _ _ z z _ hzm hv1.row (hv0.below hC5).row).mono ?_
  rw [sameS_yes rfl]
  rintro e w6 ⟨rfl, hb6⟩
  have hB6 := bstep hB5 hb6
  have hC6 := bstep hC5 hb6
  go_wp2_with fail
  refine (toSubBindS_any ao cap s _ hlen1 (unhide HL2) (hA.below hB6)).mono ?_
  rintro e w7 ⟨rfl, ho7, hb7⟩
  have hB7 := bstep hB6 hb7
  have hC7 := bstep hC6 hb7
  have hx7 := ho4.below (Nat.le_refl _) (bstep (bstep hb5 hb6) hb7)
  go_wp2_with fail
  refine (eqSubBindS_yes _ _ _ _ s _ hm hx7.row ho7.row).mono ?_
  rintro e w8 ⟨rfl, hb8⟩
  have hB8 := bstep hB7 hb8
  have hC8 := bstep hC7 hb8
  have hx8 := ho4.below (Nat.le_refl _) (bstep (bstep (bstep hb5 hb6) hb7) hb8)
  have hg8 := hv1.below (bstep (bstep hb6 hb7) hb8)
  go_wp2_with fail
  refine (markSubBindS_one _ _ _ _ s _ hlen hx8).mono ?_
  rintro e w9 ⟨rfl, hx9, hG9⟩
  have hB9 := Btw.below hB8 hG9 hB3.size
  have hC9 := Btw.below hC8 hG9 (Nat.le_refl _)
  have hg9 : OwnC w9 w4.heap.size (.slice ao1 z.length cap1) z := own_btw hg8 hG9 (.inl (Nat.le_refl _))
  have hpos : ¬ (((endM s 1 : Nat) : Int) < 0) := by omega
  go_wp2_with fail
  refine (eqTrmCellS_any _ _ _ _ z z _ hzm hg9.row (hv0.below hC9).row).mono ?_
  rw [sameS_yes rfl]
  rintro e w10 ⟨rfl, hb10⟩
  have hB10 := bstep hB9 hb10
  have hC10 := bstep hC9 hb10
  have hg10 := hg9.below hb10
  go_wp2_with fail
  refine (markTrmCellS_one _ _ z w4.heap.size _ hfl hg10).mono ?_
  rintro e w11 ⟨rfl, hg11, hG11⟩
  have hB11 := below_row hB10 hG11 hg10 (by exact hB4.size)
  have hC11 := below_row hC10 hG11 hg10 (by exact hb4.size)
  have hpos2 : ¬ ((1 + 3 * (z.length : Int)) < 0) := by omega
  go_wp2_with fail
  refine (heldTrmCellS_one _ _ z.length _ hfl hg11.row).mono ?_
  rintro e w12 ⟨rfl, hb12⟩
  have hB12 := bstep hB11 hb12
  have hC12 := bstep hC11 hb12
  have hg12 := hg11.below hb12
  have hne2 : ((1 + 3 * (z.length : Int)) != (1 + 3 * (z.length : Int))) = false := by simp
  go_wp2_with fail
  refine (toSubBindS_any ao cap s _ hlen1 (unhide HL2) (hA.below hB12)).mono ?_
  rintro e w13 ⟨rfl, ho13, hb13⟩
  have hB13 := bstep hB12 hb13
  have hC13 := bstep hC12 hb13
  go_wp2_with fail
  refine (implSubGet_any _ _ s x _ hlen1 (unhide HL2) ho13.row).mono ?_
  rw [← unhide HZ]
  rintro e w14 ⟨v2, rfl, hv2, hb14⟩
  have hB14 := bstep hB13 hb14
  have hC14 := bstep hC13 hb14
  obtain ⟨ao2, cap2, rfl, _⟩ := hv2.shape
  go_wp2_with fail
  refine (eqTrmCellS_any _ _ _ _ z z _ hzm hv2.row (hv0.below hC14).row).mono ?_
  rw [sameS_yes rfl]
  rintro e w15 ⟨rfl, hb15⟩
  have hB15 := bstep hB14 hb15
  have hg15 := hg12.below (bstep (bstep hb13 hb14) hb15)
  go_wp2_with fail
  refine (heldTrmCellS_one _ _ z.length _ hfl hg15.row).mono ?_
  rintro e w16 ⟨rfl, hb16⟩
  have hB16 := bstep hB15 hb16
  go_wp2
  go_ret
  exact ⟨rfl, hB16⟩
end Go.Proofs.Ytcimlcmhodpalaa

/- The walk of the law FnExactSubFull. -/
namespace Go.Proofs.Ytcimlcmhodpalaa
open Go.RowKit
set_option linter.unusedVariables false
set_option linter.unusedSimpArgs false

theorem fullB_len (s : List B) (t : List C) : ((fullB s t).getD []).length ≤ 40 := by
  unfold fullB
  split
  · unfold fullOk
    split
    · split
      · rename_i h; exact h
      · simp
    · simp
  · simp

theorem markTrmCellS_at (ao : Option Addr) (cap : Nat) (t : List C) (k base : Nat) (w : World) (hm : t.length ≤ 1048576) (hk1 : 1 ≤ k) (hk : k ≤ 4194304) (hA : OwnC w base (.slice ao t.length cap) t) :
    Calls Try.prog 53 #[.slice ao t.length cap, .int .i64 (k : Int)] w fun e w' => ∃ k' : Nat, e = .returned (.int .i64 (k' : Int)) ∧ k' = k + 3 * t.length ∧
      OwnC w' base (.slice ao t.length cap) (marksC t.length k) ∧ w.grownBy w' (Value.slice ao t.length cap).ownBlock := by
  refine (markTrmCellS_any ao cap t k base w hm hk1 hk hA).mono ?_
  rintro e w' ⟨rfl, h⟩
  exact ⟨_, rfl, rfl, h⟩

set_option maxRecDepth 100000 in
set_option maxHeartbeats 2000000 in
theorem FnExactSubFull_walk (ao : Option Addr) (cap : Nat) (s : List B) (bo : Option Addr) (cp : Nat) (t : List C) (w : World) (hm : s.length ≤ maxLen) (hA : RowB w ao s) (hF : FitB s) (hmt : t.length ≤ maxLen) (hT : Row w bo t) (hFt : Fit t) (hwt : WfC t) :
    Calls Try.prog 21 #[.slice ao s.length cap, .slice bo t.length cp] w fun e w' => e = .returned (.bool true) ∧ Below w.heap.size w w' := by
  clear hwt
  go_enter Try.func21, Try.ntmps21
  go_wp2_with fail
  refine (szSubBindS_any ao cap s 1048576 _ hm hA hF (by omega) (by omega)).mono ?_
  rintro e w1 ⟨r, rfl, hr, hb1⟩
  by_cases hr0 : r < 0
  · go_wp2
    go_ret
    exact ⟨rfl, hb1⟩
  have hr1 : 0 ≤ r ∧ r ≤ 1048576 := by omega
  have hlen : s.length + tot s ≤ 1048576 := by omega
  go_wp2_with fail
  refine (szTrmCellS_any bo cp t r _ hmt (hT.below hb1) hFt (by omega) (by omega)).mono ?_
  rintro e w2 ⟨r2, rfl, hr2, hb2⟩
  have hB2 := bstep hb1 hb2
  by_cases hr3 : r2 < 0
  · go_wp2
    go_ret
    exact ⟨rfl, hB2⟩
  have htl : t.length ≤ 1048576 := by omega
  have hlen1 : s.length ≤ 1048576 := by omega
  have hlen2 : ∀ x ∈ s, x.t.length ≤ 1048576 := fun x hx => by have := tot_mem hx; omega
  have hcm : t.length ≤ maxLen := hmt
  have HL2 := hide hlen2
  have HF := hide hF
  have HFT := hide hFt
  clear hr hlen2 hr2 hr1 hF hFt
  go_wp2_with fail
  refine (toSubBindS_any ao cap s _ hlen1 (unhide HL2) (hA.below hB2)).mono ?_
  rintro e w3 ⟨rfl, ho3, hb3⟩
  have hB3 := bstep hB2 hb3
  go_wp2_with fail
  refine (toTrmCellS_any bo cp t _ htl (hT.below hB3)).mono ?_
  rintro e w4 ⟨rfl, ho4, hb4⟩
  have hB4 := bstep hB3 hb4
  have ho3' := ho3.below (Nat.le_refl _) hb4
  go_wp2_with fail
  refine (specSubFull_any _ _ s _ _ t _ hlen1 (by omega) hmt ho3'.row (unhide HF) (row_of_own ho4) (unhide HFT)).mono ?_
  rintro e w5 ⟨v0, hv0, rfl, hb5⟩
  have hB5 := bstep hB4 hb5
  obtain ⟨ao0, cap0, rfl, _⟩ := hv0.shape
  have hfl := fullB_len s t
  have HI := hide (fun (W W' : World) (a1 : Option Addr) (c1 : Nat) (a2 : Option Addr) (hb : RowB W a1 s) (hr : Row W a2 t) => implSubFull_any a1 c1 s a2 t.length t W hlen1 (by omega) (Nat.le_refl _) hmt hb (unhide HF) hr (unhide HFT))
  obtain ⟨z, hz⟩ : ∃ z, z = (fullB s t).getD [] := ⟨_, rfl⟩
  obtain ⟨bb, hbb⟩ : ∃ bb, bb = (fullB s t).isSome := ⟨_, rfl⟩
  unfold FOut at HI
  rw [← hz, ← hbb] at HI
  rw [← hz] at hv0 hfl
  rw [← hz, ← hbb]
  clear hz hbb ho3 ho3' ho4
  have hfl2 : z.length ≤ 1048576 := by omega
  have hzm : z.length ≤ maxLen := by unfold maxLen; omega
  have hne : (bb != bb) = false := by simp
  go_wp2_with fail
  refine (toSubBindS_any ao cap s _ hlen1 (unhide HL2) (hA.below hB5)).mono ?_
  rintro e w6 ⟨rfl, ho6, hb6⟩
  have hB6 := bstep hB5 hb6
  go_wp2_with fail
  refine (toTrmCellS_any bo cp t _ htl (hT.below hB6)).mono ?_
  rintro e w7 ⟨rfl, ho7, hb7⟩
  have hB7 := bstep hB6 hb7
  have hC7 := bstep hb6 hb7
  have hx7 := ho6.below (Nat.le_refl _) hb7
  go_wp2_with fail
  refine (unhide HI _ w7 _ _ _ hx7.row (row_of_own ho7)).mono ?_
  rintro e w8 ⟨v1, hv1, rfl, hb8⟩
  have hB8 := bstep hB7 hb8
  have hC8 := bstep hC7 hb8
  obtain ⟨ao1, cap1, rfl, _⟩ := hv1.shape
  go_wp2_with fail
  refine (eqTrmCellS_any _ _ _ _ z z _ hzm hv1.row (hv0.below hC8).row).mono ?_
  rw [sameS_yes rfl]
  rintro e w9 ⟨rfl, hb9⟩
  have hB9 := bstep hB8 hb9
  have hC9 := bstep hC8 hb9
  go_wp2_with fail
  refine (toSubBindS_any ao cap s _ hlen1 (unhide HL2) (hA.below hB9)).mono ?_
  rintro e w10 ⟨rfl, ho10, hb10⟩
  have hB10 := bstep hB9 hb10
  have hC10 := bstep hC9 hb10
  have hD10 := bstep (bstep hb8 hb9) hb10
  have hx10 := ho6.below (Nat.le_refl _) (bstep hb7 hD10)
  go_wp2_with fail
  refine (eqSubBindS_yes _ _ _ _ s _ hm hx10.row ho10.row).mono ?_
  rintro e w11 ⟨rfl, hb11⟩
  have hB11 := bstep hB10 hb11
  have hC11 := bstep hC10 hb11
  have hD11 := bstep hD10 hb11
  go_wp2_with fail
  refine (toTrmCellS_any bo cp t _ htl (hT.below hB11)).mono ?_
  rintro e w12 ⟨rfl, ho12, hb12⟩
  have hB12 := bstep hB11 hb12
  have hC12 := bstep hC11 hb12
  have hD12 := bstep hD11 hb12
  have hy12 := own_below (toC (n := 0) ho7) hD12
  go_wp2_with fail
  refine (eqTrmCellS_any _ _ _ _ t t _ hmt (OwnC.row hy12) (row_of_own ho12)).mono ?_
  rw [sameS_yes rfl]
  rintro e w13 ⟨rfl, hb13⟩
  have hB13 := bstep hB12 hb13
  have hC13 := bstep hC12 hb13
  have hD13 := bstep hD12 hb13
  have hx13 := ho6.below (Nat.le_refl _) (bstep hb7 hD13)
  have hy13 : OwnC w13 w6.heap.size (.slice (some ⟨w6.heap.size, 0, none⟩) t.length t.length) t := own_below hy12 hb13
  have hg13 := hv1.below (bstep (bstep (bstep (bstep (bstep hb9 hb10) hb11) hb12) hb13) (Below.refl _ _))
  go_wp2_with fail
  refine (markSubBindS_one _ _ _ _ s _ hlen hx13).mono ?_
  rintro e w14 ⟨rfl, hx14, hG14⟩
  have hB14 := Btw.below hB13 hG14 hB5.size
  have hC14 := Btw.below hC13 hG14 (Nat.le_refl _)
  have hy14 : OwnC w14 w6.heap.size (.slice (some ⟨w6.heap.size, 0, none⟩) t.length t.length) t := own_btw hy13 hG14 (.inl (Nat.le_refl _))
  have hg14 : OwnC w14 w7.heap.size (.slice ao1 z.length cap1) z := own_btw hg13 hG14 (.inl hb7.size)
  have hem : 1 ≤ endM s 1 ∧ endM s 1 ≤ 4194304 := by unfold endM; omega
  obtain ⟨em, hem'⟩ : ∃ em, em = endM s 1 := ⟨_, rfl⟩
  rw [← hem'] at hem
  rw [← hem']
  clear hem' hx14
  go_wp2_with fail
  refine (markTrmCellS_at _ _ t em w6.heap.size _ htl hem.1 hem.2 hy14).mono ?_
  rintro e w15 ⟨k15, rfl, _, hy15, hG15⟩
  have hB15 := below_row hB14 hG15 hy14 (by exact hB6.size)
  have hC15 := below_row hC14 hG15 hy14 (by exact hb6.size)
  have hg15 : OwnC w15 w7.heap.size (.slice ao1 z.length cap1) z := own_apart hg14 hG15 (fun k e => .inl (by have := hb7.size; have := ho7.lt k e; omega))
  have hpos : ¬ ((k15 : Int) < 0) := by omega
  go_wp2_with fail
  refine (eqTrmCellS_any _ _ _ _ z z _ hzm hg15.row (hv0.below hC15).row).mono ?_
  rw [sameS_yes rfl]
  rintro e w16 ⟨rfl, hb16⟩
  have hB16 := bstep hB15 hb16
  have hC16 := bstep hC15 hb16
  have hg16 := hg15.below hb16
  go_wp2_with fail
  refine (markTrmCellS_one _ _ z w7.heap.size _ hfl2 hg16).mono ?_
  rintro e w17 ⟨rfl, hg17, hG17⟩
  have hB17 := below_row hB16 hG17 hg16 (by exact hB7.size)
  have hC17 := below_row hC16 hG17 hg16 (by exact hC7.size)
  have hpos2 : ¬ ((1 + 3 * (z.length : Int)) < 0) := by omega
  go_wp2_with fail
  refine (heldTrmCellS_one _ _ z.length _ hfl2 hg17.row).mono ?_
  rintro e w18 ⟨rfl, hb18⟩
  have hB18 := bstep hB17 hb18
  have hC18 := bstep hC17 hb18
  have hg18 := hg17.below hb18
  have hne2 : ((1 + 3 * (z.length : Int)) != (1 + 3 * (z.length : Int))) = false := by simp
  go_wp2_with fail
  refine (toSubBindS_any ao cap s _ hlen1 (unhide HL2) (hA.below hB18)).mono ?_
  rintro e w19 ⟨rfl, ho19, hb19⟩
  have hB19 := bstep hB18 hb19
  have hC19 := bstep hC18 hb19
  go_wp2_with fail
  refine (toTrmCellS_any bo cp t _ htl (hT.below hB19)).mono ?_
  rintro e w20 ⟨rfl, ho20, hb20⟩
  have hB20 := bstep hB19 hb20
  have hC20 := bstep hC19 hb20
  have hx20 := ho19.below (Nat.le_refl _) hb20
  go_wp2_with fail
  refine (unhide HI _ w20 _ _ _ hx20.row (row_of_own ho20)).mono ?_
  rintro e w21 ⟨v2, hv2, rfl, hb21⟩
  have hB21 := bstep hB20 hb21
  have hC21 := bstep hC20 hb21
  obtain ⟨ao2, cap2, rfl, _⟩ := hv2.shape
  go_wp2_with fail
  refine (eqTrmCellS_any _ _ _ _ z z _ hzm hv2.row (hv0.below hC21).row).mono ?_
  rw [sameS_yes rfl]
  rintro e w22 ⟨rfl, hb22⟩
  have hB22 := bstep hB21 hb22
  have hg22 := hg18.below (bstep (bstep (bstep hb19 hb20) hb21) hb22)
  go_wp2_with fail
  refine (heldTrmCellS_one _ _ z.length _ hfl2 hg22.row).mono ?_
  rintro e w23 ⟨rfl, hb23⟩
  have hB23 := bstep hB22 hb23
  go_wp2
  go_ret
  exact ⟨rfl, hB23⟩
end Go.Proofs.Ytcimlcmhodpalaa
