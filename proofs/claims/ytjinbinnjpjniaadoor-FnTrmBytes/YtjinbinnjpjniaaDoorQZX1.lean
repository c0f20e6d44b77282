/- The walk of FnExactTrmTake. -/
import Derived.Test.YtjinbinnjpjniaaDoorQZ8
import Derived.Test.YtjinbinnjpjniaaDoorQW6W14YB5
namespace Go.Proofs.YtjinbinnjpjniaaDoor
open Go.RowKit
set_option linter.unusedVariables false
set_option linter.unusedSimpArgs false

theorem Gl.below {w w' : World} (h : Gl w) (hb : Below w.heap.size w w') : Gl w' := h.grown (r := none) (grown_below hb) (fun k e => by cases e)
theorem rdAll_len (y : List Int) : ((rdAll y).getD []).length ≤ 40 := by
  cases h : rdAll y with
  | none => simp
  | some t =>
    have ht : trm t = true := by
      unfold rdAll at h
      split at h
      · rename_i t' e
        simp only [Option.some.injEq] at h
        subst h
        unfold rdT at e
        split at e
        · cases e
        · split at e
          · split at e
            · rename_i hh
              simp only [Option.some.injEq, Prod.mk.injEq] at e
              rw [← e.1]; exact hh
            · cases e
          · cases e
      · cases h
    exact ((trm_iff t).1 ht).2.1

set_option maxRecDepth 100000 in
set_option maxHeartbeats 4000000 in
theorem FnExactTrmTake_walk (ao : Option Addr) (len cap : Nat) (zf : Nat → Int) (w : World) (h : Bin w ao len cap zf) (hG : Gl w) :
    Calls Tryd.prog 4 #[.slice ao len cap] w fun e w' => e = .returned (.bool true) ∧ Below w.heap.size w w' := by
  obtain ⟨y, rfl, hy, hR, hc, hm⟩ := h.list
  have hmx : y.length ≤ 9223372036854775807 := by unfold maxLen at hm; omega
  clear h
  by_cases hbig : y.length ≤ 1048576
  · have hml : y.length ≤ maxLen := by unfold maxLen; omega
    have HTO := hide (fun (W : World) (hW : Below w.heap.size w W) => toByteS_any ao cap y W hbig (hR.below hW))
    have HS := hide (fun (a : Option Addr) (W : World) (hA : RowY W a y) => specTrmTake_any a y.length y W hA hy hbig (Nat.le_refl _))
    have HI := hide (fun (a : Option Addr) (W : World) (hA : RowY W a y) (hB : Below w.heap.size w W) => implTrmTake_any a y.length y W hA hy (hG.below hB) hbig (Nat.le_refl _))
    have htl := rdAll_len y
    obtain ⟨t, ht⟩ : ∃ t, t = (rdAll y).getD [] := ⟨_, rfl⟩
    obtain ⟨f, hf⟩ : ∃ f, f = (rdAll y).isSome := ⟨_, rfl⟩
    have HT := hide (show ∀ (W : World) (e : Ending) (W' : World), TakeOut W y e W' → ∃ v, e = .returned (.tuple #[v, .bool f]) ∧ OwnC W' W.heap.size v t ∧ Below W.heap.size W W' from fun W e W' h => by rw [hf, ht]; exact h)
    rw [← ht] at htl
    clear ht hf hR hG
    have htm : t.length ≤ maxLen := by unfold maxLen; omega
    have ht2 : t.length ≤ 1048576 := by omega
    have hff : (f != f) = false := by simp
    go_enter Tryd.func4, Tryd.ntmps4
    go_wp2_with fail
    refine (unhide HTO w (Below.refl _ _)).mono ?_
    rintro e w1 ⟨rfl, ho1, hb1⟩
    go_wp2_with fail
    refine (unhide HS _ w1 (rowY_of_own ho1 rfl)).mono ?_
    intro e w2 hTk
    obtain ⟨v0, rfl, hv0, hb2⟩ := unhide HT _ _ _ hTk
    clear hTk ho1
    have hB2 := bstep hb1 hb2
    obtain ⟨ao0, cap0, rfl, _⟩ := hv0.shape
    go_wp2_with fail
    refine (unhide HTO w2 hB2).mono ?_
    rintro e w3 ⟨rfl, ho3, hb3⟩
    have hB3 := bstep hB2 hb3
    go_wp2_with fail
    refine (unhide HI _ w3 (rowY_of_own ho3 rfl) hB3).mono ?_
    intro e w4 hTk
    obtain ⟨v1, rfl, hv1, hb4⟩ := unhide HT _ _ _ hTk
    clear hTk
    have hB4 := bstep hB3 hb4
    have hC4 := bstep hb3 hb4
    obtain ⟨ao1, cap1, rfl, _⟩ := hv1.shape
    go_wp2_with fail
    refine (eqTrmCellS_any _ _ _ _ t t _ htm (OwnC.row hv1) (OwnC.row (hv0.below hC4))).mono ?_
    rw [sameS_yes rfl]
    rintro e w5 ⟨rfl, hb5⟩
    have hB5 := bstep hB4 hb5
    have hC5 := bstep hC4 hb5
    go_wp2_with fail
    refine (unhide HTO w5 hB5).mono ?_
    rintro e w6 ⟨rfl, ho6, hb6⟩
    have hB6 := bstep hB5 hb6
    have hC6 := bstep hC5 hb6
    have hx6 : OwnY w6 w2.heap.size (.slice (some ⟨w2.heap.size, 0, none⟩) y.length y.length) y := own_below ho3 (bstep (bstep hb4 hb5) hb6)
    go_wp2_with fail
    refine (eqByteS_any _ _ _ _ y y w6 hml hx6.row (rowY_of_own ho6 rfl)).mono ?_
    rw [decide_eq_yes rfl]
    rintro e w7 ⟨rfl, hb7⟩
    have hB7 := bstep hB6 hb7
    have hC7 := bstep hC6 hb7
    have hx7 := hx6.below hb7
    have hg7 := hv1.below (bstep (bstep hb5 hb6) hb7)
    have HK := hide (And.intro hB7 (And.intro hC7 (And.intro hx7 (And.intro hg7 (And.intro hv0 (And.intro hB2 (And.intro hb3 hB3)))))))
    go_wp2_with fail
    refine (markByteS_one _ _ y w2.heap.size _ hbig hx7).mono ?_
    rintro e w8 ⟨rfl, hx8, hG8⟩
    have hB8 := below_row hB7 hG8 hx7 (by exact hB2.size)
    have hC8 := below_row hC7 hG8 hx7 (Nat.le_refl _)
    have hg8 : OwnC w8 w3.heap.size (.slice ao1 t.length cap1) t := own_apart hg7 hG8 (fun k e => .inl (by have := hb3.size; have := ho3.lt k e; omega))
    have hpos : ¬ ((1 + (y.length : Int)) < 0) := by omega
    clear HK
    go_wp2_with fail
    refine (eqTrmCellS_any _ _ _ _ t t _ htm (OwnC.row hg8) (OwnC.row (hv0.below hC8))).mono ?_
    rw [sameS_yes rfl]
    rintro e w9 ⟨rfl, hb9⟩
    have hB9 := bstep hB8 hb9
    have hC9 := bstep hC8 hb9
    have hg9 := hg8.below hb9
    go_wp2_with fail
    refine (markTrmCellS_one _ _ t w3.heap.size _ ht2 hg9).mono ?_
    rintro e w10 ⟨rfl, hg10, hG10⟩
    have hB10 := below_row hB9 hG10 hg9 (by exact hB3.size)
    have hC10 := below_row hC9 hG10 hg9 (by exact hb3.size)
    have hpos2 : ¬ ((1 + 3 * (t.length : Int)) < 0) := by omega
    have hne2 : ((1 + 3 * (t.length : Int)) != (1 + 3 * (t.length : Int))) = false := by simp
    go_wp2_with fail
    refine (heldTrmCellS_one _ _ t.length _ ht2 hg10.row).mono ?_
    rintro e w11 ⟨rfl, hb11⟩
    have hB11 := bstep hB10 hb11
    have hC11 := bstep hC10 hb11
    have hg11 := hg10.below hb11
    go_wp2_with fail
    refine (unhide HTO w11 hB11).mono ?_
    rintro e w12 ⟨rfl, ho12, hb12⟩
    have hB12 := bstep hB11 hb12
    have hC12 := bstep hC11 hb12
    go_wp2_with fail
    refine (unhide HI _ w12 (rowY_of_own ho12 rfl) hB12).mono ?_
    intro e w13 hTk
    obtain ⟨v2, rfl, hv2, hb13⟩ := unhide HT _ _ _ hTk
    clear hTk
    have hB13 := bstep hB12 hb13
    have hC13 := bstep hC12 hb13
    obtain ⟨ao2, cap2, rfl, _⟩ := hv2.shape
    go_wp2_with fail
    refine (eqTrmCellS_any _ _ _ _ t t _ htm (OwnC.row hv2) (OwnC.row (hv0.below hC13))).mono ?_
    rw [sameS_yes rfl]
    rintro e w14 ⟨rfl, hb14⟩
    have hB14 := bstep hB13 hb14
    have hg14 := hg11.below (bstep (bstep hb12 hb13) hb14)
    go_wp2_with fail
    refine (heldTrmCellS_one _ _ t.length _ ht2 hg14.row).mono ?_
    rintro e w15 ⟨rfl, hb15⟩
    go_wp2
    go_ret
    exact ⟨rfl, bstep hB14 hb15⟩
  · go_enter Tryd.func4, Tryd.ntmps4
    go_wp2
    go_ret
    exact ⟨rfl, Below.refl _ _⟩
end Go.Proofs.YtjinbinnjpjniaaDoor
