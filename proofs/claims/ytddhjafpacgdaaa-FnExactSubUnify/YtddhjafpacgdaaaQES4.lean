/- The walk of the law FnExactSubUnify. -/
import Derived.Test.YtddhjafpacgdaaaQUF3UF4SB4
import Derived.Test.YtddhjafpacgdaaaQES3DT1
import Derived.Test.YtddhjafpacgdaaaQDB0DB1
import Derived.Test.YtddhjafpacgdaaaQSBL
namespace Go.Proofs.Ytddhjafpacgdaaa
open Go.RowKit
set_option linter.unusedVariables false
set_option linter.unusedSimpArgs false

theorem um_small {s : List B} {a b : List C} {o : List B} {h : Int} (hM : UM s a b o h) : o.length + tot o ≤ 4194304 := by
  rcases hM with ⟨hc, a', b', res, sf, a'', hw, rfl, rfl⟩ | ⟨_, rfl, rfl⟩
  · have hp := subOk_parts hc.1
    obtain ⟨n, hU⟩ := hw.un
    have hR := Room.begin hU (subOk_okB hc.1) hp.1 (fun x hx => (trm_len (hp.2 x hx)).2) (trm_Trm hc.2.1) (trm_Trm hc.2.2) (trm_len hc.2.1).2 (trm_len hc.2.2).2
    unfold uwO
    split
    · cases res with
      | none => simp [tot]
      | some s' =>
        simp only
        split
        · have hR' := hU.room hR s' rfl
          have h1 := hR'.len
          have h2 := tot_le hR'.shortB
          omega
        · simp [tot]
    · simp [tot]
  · simp [tot]

theorem ownB_btw {w w' : World} {lo hi lo' hi' : Nat} {v : Value} {s : List B} (h : OwnB w lo' hi' v s) (hb : Btw lo hi w w') (hr : hi ≤ lo') (hh : hi' ≤ w.heap.size) : OwnB w' lo' hi' v s :=
  h.kept (fun k hk1 hk2 => hb.block k (Nat.lt_of_lt_of_le hk2 hh) (.inr (Nat.le_trans hr hk1)))

set_option maxRecDepth 100000 in
set_option maxHeartbeats 20000000 in
theorem FnExactSubUnify_walk (ao : Option Addr) (cap : Nat) (s : List B) (bo : Option Addr) (cp : Nat) (a : List C) (co : Option Addr) (cq : Nat) (b : List C) (w : World) (hm : s.length ≤ maxLen) (hA : RowB w ao s) (hF : FitB s) (hma : a.length ≤ maxLen) (hT : Row w bo a) (hFa : Fit a) (hwa : WfC a) (hmb : b.length ≤ maxLen) (hU : Row w co b) (hFb : Fit b) (hwb : WfC b) :
    Calls Try.prog 22 #[.slice ao s.length cap, .slice bo a.length cp, .slice co b.length cq] w fun e w' => e = .returned (.bool true) ∧ Below w.heap.size w w' := by
  clear hwa hwb
  obtain ⟨o, h, hM⟩ := um_all s a b
  go_enter Try.func22, Try.ntmps22
  go_wp2_with fail
  refine (szSubBindS_any ao cap s 1048576 _ hm hA hF (by omega) (by omega)).mono ?_
  rintro e w1 ⟨r, rfl, hr, hb1⟩
  by_cases hr0 : r < 0
  · go_wp2
    go_ret
    exact ⟨rfl, hb1⟩
  have hr1 : 0 ≤ r ∧ r ≤ 1048576 := by omega
  go_wp2_with fail
  refine (szTrmCellS_any bo cp a r _ hma (hT.below hb1) hFa (by omega) (by omega)).mono ?_
  rintro e w2 ⟨r2, rfl, hr2, hb2⟩
  have hB2 := bstep hb1 hb2
  by_cases hr3 : r2 < 0
  · go_wp2
    go_ret
    exact ⟨rfl, hB2⟩
  have hr4 : 0 ≤ r2 ∧ r2 ≤ 1048576 := by omega
  go_wp2_with fail
  refine (szTrmCellS_any co cq b r2 _ hmb (hU.below hB2) hFb (by omega) (by omega)).mono ?_
  rintro e w3 ⟨r5, rfl, hr5, hb3⟩
  have hB3 := bstep hB2 hb3
  by_cases hr6 : r5 < 0
  · go_wp2
    go_ret
    exact ⟨rfl, hB3⟩
  have hsum : s.length + tot s + a.length + b.length ≤ 1048576 := by omega
  have hal : a.length ≤ 1048576 := by omega
  have hbl : b.length ≤ 1048576 := by omega
  have hlen : s.length + tot s ≤ 1048576 := by omega
  have hlen1 : s.length ≤ 1048576 := by omega
  have hlen2 : ∀ x ∈ s, x.t.length ≤ 1048576 := fun x hx => by have := tot_mem hx; omega
  have HL2 := hide hlen2
  have HF := hide hF
  have HFA := hide hFa
  have HFB := hide hFb
  have hos := um_small hM
  have HM := hide hM
  clear hr hlen2 hr2 hr1 hr5 hr4 hF hFa hFb hM
  have hom : o.length ≤ maxLen := by unfold maxLen; omega
  go_wp2_with fail
  refine (toSubBindS_any ao cap s _ hlen1 (unhide HL2) (hA.below hB3)).mono ?_
  rintro e w4 ⟨rfl, ho4, hb4⟩
  have hB4 := bstep hB3 hb4
  go_wp2_with fail
  refine (toTrmCellS_any bo cp a _ hal (hT.below hB4)).mono ?_
  rintro e w5 ⟨rfl, ho5, hb5⟩
  have hB5 := bstep hB4 hb5
  go_wp2_with fail
  refine (toTrmCellS_any co cq b _ hbl (hU.below hB5)).mono ?_
  rintro e w6 ⟨rfl, ho6, hb6⟩
  have hB6 := bstep hB5 hb6
  have hx6 := ho4.below (Nat.le_refl _) (bstep hb5 hb6)
  have hy6 := own_below (toC (n := 0) ho5) hb6
  go_wp2_with fail
  refine (specSubUnify_any _ _ s _ _ a _ _ b o h w4.heap.size w5.heap.size _ hlen1 (by omega) hma hmb hx6.row (unhide HF) hy6 (unhide HFA) (toC (n := 0) ho6) (unhide HFB) (unhide HM)).mono ?_
  rintro e w7 ⟨v0, rfl, hv0, hb7⟩
  have hB7 := bstep hB6 hb7
  obtain ⟨ao0, cap0, rfl, _⟩ := hv0.shape
  have HI := hide (fun (W : World) (a1 : Option Addr) (c1 : Nat) (a2 : Option Addr) (a3 : Option Addr) (hb : RowB W a1 s) (hr : Row W a2 a) (hr' : Row W a3 b) => implSubUnify_any a1 c1 s a2 a.length a a3 b.length b o h W hlen1 (by omega) (Nat.le_refl _) hma (Nat.le_refl _) hmb hb (unhide HF) hr (unhide HFA) hr' (unhide HFB) (unhide HM))
  unfold UOutM at HI
  clear ho4 ho5 ho6 hx6 hy6
  have hne : (h != h) = false := by simp
  go_wp2_with fail
  refine (toSubBindS_any ao cap s _ hlen1 (unhide HL2) (hA.below hB7)).mono ?_
  rintro e w8 ⟨rfl, ho8, hb8⟩
  have hB8 := bstep hB7 hb8
  go_wp2_with fail
  refine (toTrmCellS_any bo cp a _ hal (hT.below hB8)).mono ?_
  rintro e w9 ⟨rfl, ho9, hb9⟩
  have hB9 := bstep hB8 hb9
  have hC9 := bstep hb8 hb9
  go_wp2_with fail
  refine (toTrmCellS_any co cq b _ hbl (hU.below hB9)).mono ?_
  rintro e w10 ⟨rfl, ho10, hb10⟩
  have hB10 := bstep hB9 hb10
  have hC10 := bstep hC9 hb10
  have hx10 := ho8.below (Nat.le_refl _) (bstep hb9 hb10)
  have hy10 := own_below (toC (n := 0) ho9) hb10
  go_wp2_with fail
  refine (unhide HI w10 _ _ _ _ hx10.row (OwnC.row hy10) (row_of_own ho10)).mono ?_
  rintro e w11 ⟨v1, rfl, hv1, hb11⟩
  have hB11 := bstep hB10 hb11
  have hC11 := bstep hC10 hb11
  obtain ⟨ao1, cap1, rfl, _⟩ := hv1.shape
  go_wp2_with fail
  refine (eqSubBindS_yes _ _ _ _ o _ hom hv1.row (hv0.below (Nat.le_refl _) hC11).row).mono ?_
  rintro e w12 ⟨rfl, hb12⟩
  have hB12 := bstep hB11 hb12
  have hC12 := bstep hC11 hb12
  go_wp2_with fail
  refine (toSubBindS_any ao cap s _ hlen1 (unhide HL2) (hA.below hB12)).mono ?_
  rintro e w13 ⟨rfl, ho13, hb13⟩
  have hB13 := bstep hB12 hb13
  have hC13 := bstep hC12 hb13
  have hD13 := bstep (bstep hb11 hb12) hb13
  have hx13 := hx10.below (by exact Nat.le_trans hb9.size hb10.size) hD13
  go_wp2_with fail
  refine (eqSubBindS_yes _ _ _ _ s _ hm hx13.row ho13.row).mono ?_
  rintro e w14 ⟨rfl, hb14⟩
  have hB14 := bstep hB13 hb14
  have hC14 := bstep hC13 hb14
  have hD14 := bstep hD13 hb14
  go_wp2_with fail
  refine (toTrmCellS_any bo cp a _ hal (hT.below hB14)).mono ?_
  rintro e w15 ⟨rfl, ho15, hb15⟩
  have hB15 := bstep hB14 hb15
  have hC15 := bstep hC14 hb15
  have hD15 := bstep hD14 hb15
  go_wp2_with fail
  refine (eqTrmCellS_any _ _ _ _ a a _ hma (OwnC.row (own_below hy10 hD15)) (row_of_own ho15)).mono ?_
  rw [sameS_yes rfl]
  rintro e w16 ⟨rfl, hb16⟩
  have hB16 := bstep hB15 hb16
  have hC16 := bstep hC15 hb16
  have hD16 := bstep hD15 hb16
  go_wp2_with fail
  refine (toTrmCellS_any co cq b _ hbl (hU.below hB16)).mono ?_
  rintro e w17 ⟨rfl, ho17, hb17⟩
  have hB17 := bstep hB16 hb17
  have hC17 := bstep hC16 hb17
  have hD17 := bstep hD16 hb17
  go_wp2_with fail
  refine (eqTrmCellS_any _ _ _ _ b b _ hmb (OwnC.row (own_below (toC (n := 0) ho10) hD17)) (row_of_own ho17)).mono ?_
  rw [sameS_yes rfl]
  rintro e w18 ⟨rfl, hb18⟩
  have hB18 := bstep hB17 hb18
  have hC18 := bstep hC17 hb18
  have hD18 := bstep hD17 hb18
  have hE18 := bstep (bstep (bstep (bstep (bstep (bstep hb12 hb13) hb14) hb15) hb16) hb17) hb18
  have hx18 := hx10.below (by exact Nat.le_trans hb9.size hb10.size) hD18
  have hy18 : OwnC w18 w8.heap.size (.slice (some ⟨w8.heap.size, 0, none⟩) a.length a.length) a := own_below hy10 hD18
  have hz18 : OwnC w18 w9.heap.size (.slice (some ⟨w9.heap.size, 0, none⟩) b.length b.length) b := own_below (toC (n := 0) ho10) hD18
  have hg18 := hv1.below (Nat.le_refl _) hE18
  have hs9 := hb9.size
  have hs10 := hb10.size
  have hs11 := hb11.size
  have hs18 := hE18.size
  clear ho13 hx13 ho15 ho17 hD13 hD14 hD15 hD16 hD17
  go_wp2_with fail
  refine (markSubBindS_one _ _ _ _ s _ hlen hx18).mono ?_
  rintro e w19 ⟨rfl, hx19, hG19⟩
  have hB19 := Btw.below hB18 hG19 hB7.size
  have hC19 := Btw.below hC18 hG19 (Nat.le_refl _)
  have hy19 : OwnC w19 w8.heap.size (.slice (some ⟨w8.heap.size, 0, none⟩) a.length a.length) a := own_btw hy18 hG19 (.inl (Nat.le_refl _))
  have hz19 : OwnC w19 w9.heap.size (.slice (some ⟨w9.heap.size, 0, none⟩) b.length b.length) b := own_btw hz18 hG19 (.inl hs9)
  have hg19 := ownB_btw hg18 hG19 (by omega) hs18
  have hs19 := hG19.size
  have hem : 1 ≤ endM s 1 ∧ endM s 1 + 3 * a.length ≤ 4194304 := by unfold endM; omega
  obtain ⟨em, hem'⟩ : ∃ em, em = endM s 1 := ⟨_, rfl⟩
  rw [← hem'] at hem
  rw [← hem']
  clear hem' hx19
  go_wp2_with fail
  refine (markTrmCellS_at _ _ a em w8.heap.size _ hal hem.1 (by omega) hy19).mono ?_
  rintro e w20 ⟨k20, rfl, hk20, hy20, hG20⟩
  have hk20' : 1 ≤ k20 ∧ k20 ≤ 4194304 := by omega
  clear hk20 hem
  have hB20 := below_row hB19 hG20 hy19 (by exact hB8.size)
  have hC20 := below_row hC19 hG20 hy19 (by exact hb8.size)
  have hz20 : OwnC w20 w9.heap.size (.slice (some ⟨w9.heap.size, 0, none⟩) b.length b.length) b := own_apart hz19 hG20 (fun k e => .inl (by have := ho9.lt k e; omega))
  have hg20 := hg19.grown (by omega) hG20 (fun k e => .inl (by have := ho9.lt k e; omega))
  have hs20 := hG20.size
  go_wp2_with fail
  refine (markTrmCellS_at _ _ b k20 w9.heap.size _ hbl hk20'.1 hk20'.2 hz20).mono ?_
  rintro e w21 ⟨k21, rfl, _, hz21, hG21⟩
  have hB21 := below_row hB20 hG21 hz20 (by exact hB9.size)
  have hC21 := below_row hC20 hG21 hz20 (by exact hC9.size)
  have hg21 := hg20.grown (by omega) hG21 (fun k e => .inl (by have := ho10.lt k e; omega))
  have hs21 := hG21.size
  have hpos : ¬ ((k21 : Int) < 0) := by omega
  clear hy20 hz21
  go_wp2_with fail
  refine (eqSubBindS_yes _ _ _ _ o _ hom hg21.row (hv0.below (Nat.le_refl _) hC21).row).mono ?_
  rintro e w22 ⟨rfl, hb22⟩
  have hB22 := bstep hB21 hb22
  have hC22 := bstep hC21 hb22
  have hg22 := hg21.below (by omega) hb22
  go_wp2_with fail
  refine (markSubBindL_one _ _ _ _ o _ hos hg22).mono ?_
  rintro e w23 ⟨rfl, hg23, hG23⟩
  have hB23 := Btw.below hB22 hG23 hB10.size
  have hC23 := Btw.below hC22 hG23 hC10.size
  have hs23 : w11.heap.size ≤ w23.heap.size := Nat.le_trans (Nat.le_trans (by omega) hb22.size) hG23.size
  have HH := hide (fun (W : World) (a1 : Option Addr) (c1 : Nat) (hr : RowB W a1 (marksB o 1)) => heldSubBindL_one a1 c1 o W hos hr)
  obtain ⟨m, hm'⟩ : ∃ m, m = endM o 1 := ⟨_, rfl⟩
  rw [← hm'] at HH
  rw [← hm']
  clear hm'
  have hpm : ¬ ((m : Int) < 0) := by omega
  have hnm : ((m : Int) != (m : Int)) = false := by simp
  go_wp2_with fail
  refine (unhide HH _ _ _ hg23.row).mono ?_
  rintro e w24 ⟨rfl, hb24⟩
  have hB24 := bstep hB23 hb24
  have hC24 := bstep hC23 hb24
  go_wp2_with fail
  refine (toSubBindS_any ao cap s _ hlen1 (unhide HL2) (hA.below hB24)).mono ?_
  rintro e w25 ⟨rfl, ho25, hb25⟩
  have hB25 := bstep hB24 hb25
  have hC25 := bstep hC24 hb25
  go_wp2_with fail
  refine (toTrmCellS_any bo cp a _ hal (hT.below hB25)).mono ?_
  rintro e w26 ⟨rfl, ho26, hb26⟩
  have hB26 := bstep hB25 hb26
  have hC26 := bstep hC25 hb26
  go_wp2_with fail
  refine (toTrmCellS_any co cq b _ hbl (hU.below hB26)).mono ?_
  rintro e w27 ⟨rfl, ho27, hb27⟩
  have hB27 := bstep hB26 hb27
  have hC27 := bstep hC26 hb27
  have hx27 := ho25.below (Nat.le_refl _) (bstep hb26 hb27)
  go_wp2_with fail
  refine (unhide HI w27 _ _ _ _ hx27.row (OwnC.row (own_below (toC (n := 0) ho26) hb27)) (row_of_own ho27)).mono ?_
  rintro e w28 ⟨v2, rfl, hv2, hb28⟩
  have hB28 := bstep hB27 hb28
  have hC28 := bstep hC27 hb28
  obtain ⟨ao2, cap2, rfl, _⟩ := hv2.shape
  go_wp2_with fail
  refine (eqSubBindS_yes _ _ _ _ o _ hom hv2.row (hv0.below (Nat.le_refl _) hC28).row).mono ?_
  rintro e w29 ⟨rfl, hb29⟩
  have hB29 := bstep hB28 hb29
  have hg29 := hg23.below hs23 (bstep (bstep (bstep (bstep (bstep hb24 hb25) hb26) hb27) hb28) hb29)
  go_wp2_with fail
  refine (unhide HH _ _ _ hg29.row).mono ?_
  rintro e w30 ⟨rfl, hb30⟩
  have hB30 := bstep hB29 hb30
  go_wp2
  go_ret
  exact ⟨rfl, hB30⟩
end Go.Proofs.Ytddhjafpacgdaaa
