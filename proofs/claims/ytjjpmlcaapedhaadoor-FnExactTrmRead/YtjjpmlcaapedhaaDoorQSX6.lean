/- The walk of FnExactTrmRead. -/
import Derived.Test.YtjjpmlcaapedhaaDoorQSX5
import Derived.Test.YtjjpmlcaapedhaaDoorQW13SB1
namespace Go.Proofs.YtjjpmlcaapedhaaDoor
open Go.RowKit
set_option linter.unusedVariables false
set_option linter.unusedSimpArgs false

theorem rdX_len (l : List UInt8) : ((rdX l).getD []).length ≤ 40 := by
  cases h : rdX l with
  | none => simp
  | some t => exact ((trm_iff t).1 (rdX_back h).1).2.1

set_option maxRecDepth 100000 in
set_option maxHeartbeats 4000000 in
theorem FnExactTrmRead_walk (s : ByteArray) (w : World) (hsz : s.size ≤ maxLen) (hT : TenT w) (hE : ErrG w) :
    Calls Tryd.prog 4 #[.string s] w fun e w' => e = .returned (.bool true) ∧ Below w.heap.size w w' := by
  obtain ⟨l, rfl⟩ : ∃ l, s = mkS l := ⟨bl s, (mkS_bl s).symm⟩
  have hs := mkS_size l
  rw [hs] at hsz
  by_cases hbig : l.length ≤ 1048576
  · have HS := hide (fun (W : World) => specTrmRead_any l W (by omega))
    have HI := hide (fun (W : World) (hB : Below w.heap.size w W) => implTrmRead_any l W (by omega) (hE.below hB) (hT.below hB))
    have htl := rdX_len l
    obtain ⟨t, ht⟩ : ∃ t, t = (rdX l).getD [] := ⟨_, rfl⟩
    obtain ⟨f, hf⟩ : ∃ f, f = (rdX l).isSome := ⟨_, rfl⟩
    have HR := hide (show ∀ (W : World) (e : Ending) (W' : World), ReadOut l W e W' → ∃ v, e = .returned (.tuple #[v, .bool f]) ∧ OwnC W' W.heap.size v t ∧ Below W.heap.size W W' from fun W e W' h => by rw [hf, ht]; exact h)
    rw [← ht] at htl
    clear ht hf hT hE
    have htm : t.length ≤ maxLen := by unfold maxLen; omega
    have ht2 : t.length ≤ 1048576 := by omega
    have hff : (f != f) = false := by simp
    go_enter Tryd.func4, Tryd.ntmps4
    go_wp2_with fail
    refine (unhide HS w).mono ?_
    intro e w2 hTk
    obtain ⟨v0, rfl, hv0, hB2⟩ := unhide HR _ _ _ hTk
    clear hTk
    obtain ⟨ao0, cap0, rfl, _⟩ := hv0.shape
    go_wp2_with fail
    refine (unhide HI w2 hB2).mono ?_
    intro e w4 hTk
    obtain ⟨v1, rfl, hv1, hb4⟩ := unhide HR _ _ _ hTk
    clear hTk
    have hB4 := bstep hB2 hb4
    obtain ⟨ao1, cap1, rfl, _⟩ := hv1.shape
    go_wp2_with fail
    refine (eqTrmCellS_any _ _ _ _ t t _ htm (OwnC.row hv1) (OwnC.row (hv0.below hb4))).mono ?_
    rw [sameS_yes rfl]
    rintro e w5 ⟨rfl, hb5⟩
    have hB5 := bstep hB4 hb5
    have hC5 := bstep hb4 hb5
    have hg5 := hv1.below hb5
    go_wp2_with fail
    refine (markTrmCellS_one _ _ t w2.heap.size _ ht2 hg5).mono ?_
    rintro e w10 ⟨rfl, hg10, hG10⟩
    have hB10 := below_row hB5 hG10 hg5 hB2.size
    have hC10 := below_row hC5 hG10 hg5 (Nat.le_refl _)
    have hpos2 : ¬ ((1 + 3 * (t.length : Int)) < 0) := by omega
    have hne2 : ((1 + 3 * (t.length : Int)) != (1 + 3 * (t.length : Int))) = false := by simp
    go_wp2_with fail
    refine (heldTrmCellS_one _ _ t.length _ ht2 hg10.row).mono ?_
    rintro e w11 ⟨rfl, hb11⟩
    have hB11 := bstep hB10 hb11
    have hC11 := bstep hC10 hb11
    have hg11 := hg10.below hb11
    go_wp2_with fail
    refine (unhide HI w11 hB11).mono ?_
    intro e w13 hTk
    obtain ⟨v2, rfl, hv2, hb13⟩ := unhide HR _ _ _ hTk
    clear hTk
    have hB13 := bstep hB11 hb13
    have hC13 := bstep hC11 hb13
    obtain ⟨ao2, cap2, rfl, _⟩ := hv2.shape
    go_wp2_with fail
    refine (eqTrmCellS_any _ _ _ _ t t _ htm (OwnC.row hv2) (OwnC.row (hv0.below hC13))).mono ?_
    rw [sameS_yes rfl]
    rintro e w14 ⟨rfl, hb14⟩
    have hB14 := bstep hB13 hb14
    have hg14 := hg11.below (bstep hb13 hb14)
    go_wp2_with fail
    refine (heldTrmCellS_one _ _ t.length _ ht2 hg14.row).mono ?_
    rintro e w15 ⟨rfl, hb15⟩
    go_wp2
    go_ret
    exact ⟨rfl, bstep hB14 hb15⟩
  · go_enter Tryd.func4, Tryd.ntmps4
    go_wp2
    go_ret
    exact ⟨rfl, Below.refl _ _⟩
end Go.Proofs.YtjjpmlcaapedhaaDoor
