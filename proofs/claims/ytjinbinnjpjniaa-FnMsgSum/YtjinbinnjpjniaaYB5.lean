/- The program's TrmBytes; the walk of FnExactTrmBytes. -/
import Derived.Test.YtjinbinnjpjniaaYB4
import Derived.Test.YtjinbinnjpjniaaW5
import Derived.Test.YtjinbinnjpjniaaW6
import Derived.Test.YtjinbinnjpjniaaW10
import Derived.Test.YtjinbinnjpjniaaYX1
import Derived.Test.YtjinbinnjpjniaaW14
namespace Go.Proofs.Ytjinbinnjpjniaa
open Go.RowKit
set_option linter.unusedVariables false
set_option linter.unusedSimpArgs false
attribute [-go_sem] Go.Builtin.append_

set_option maxRecDepth 100000 in
set_option maxHeartbeats 1000000 in
theorem implTrmBytes_any (ao : Option Addr) (cap : Nat) (t : List C) (w : World) (hm : t.length ≤ maxLen) (hR : Row w ao t) (hF : Fit t) :
    Calls Try.prog 14 #[.slice ao t.length cap] w fun e w' => ∃ v, e = .returned v ∧ OwnY w' w.heap.size v (encT t) ∧ Below w.heap.size w w' := by
  have HT := hide (TrmOk_any ao cap t w hm hR hF)
  cases ht : trm t with
  | false =>
    have e : encT t = [] := by simp [encT, ht]
    rw [ht] at HT
    rw [e]
    clear e ht
    go_enter Try.func14, Try.ntmps14
    go_wp2_with fail
    refine (unhide HT).mono ?_
    rintro e w1 ⟨rfl, hb1⟩
    go_wp2
    go_ret
    exact ⟨_, rfl, World.ownsRow_nil _ _ _ _, hb1⟩
  | true =>
    have e : encT t = [(t.length : Int)] ++ encL t := by simp [encT, ht]
    have hti := (trm_iff t).1 ht
    rw [ht] at HT
    rw [e]
    rcases hR with rfl | ⟨b, off, rfl, hA⟩
    · rw [trm_nil] at ht; cases ht
    · have hbl : b < w.heap.size := hA.lt (by omega)
      have HA := hide (fun (w1 : World) (hb1 : Below w.heap.size w w1) => appendTerm_any w.heap.size (.slice none 0 0) [] b off cap t w1 (World.ownsRow_nil _ _ _ _) hb1.size (by simp) (hA.below hb1) hbl hti.2.2.1 hti.2.1)
      clear e ht hti hA
      go_enter Try.func14, Try.ntmps14
      go_wp2_with fail
      refine (unhide HT).mono ?_
      rintro e w1 ⟨rfl, hb1⟩
      have H1 := hide (unhide HA w1 hb1)
      go_wp2_with fail
      refine (unhide H1).mono ?_
      rintro e w2 ⟨v, rfl, ho, hb2⟩
      go_wp2
      go_ret
      exact ⟨_, rfl, by simpa using ho, hb1.trans hb2⟩

theorem markByteS_one (ao : Option Addr) (cap : Nat) (z : List Int) (base : Nat) (w : World) (hm : z.length ≤ 1048576) (hA : OwnY w base (.slice ao z.length cap) z) :
    Calls Try.prog 18 #[.slice ao z.length cap, .int .i64 1] w fun e w' => e = .returned (.int .i64 (1 + z.length)) ∧
      OwnY w' base (.slice ao z.length cap) (marksY z.length 1) ∧ w.grownBy w' (Value.slice ao z.length cap).ownBlock :=
  markByteS_any ao cap z 1 base w (by omega) (by omega) hA
theorem heldByteS_one (ao : Option Addr) (cap n : Nat) (w : World) (hm : n ≤ 1048576) (hA : RowY w ao (marksY n 1)) :
    Calls Try.prog 19 #[.slice ao n cap, .int .i64 1] w fun e w' => e = .returned (.int .i64 (1 + n)) ∧ w' = w :=
  heldByteS_any ao cap n 1 w (by omega) (by omega) hA

set_option maxHeartbeats 1000000 in
theorem FnExactTrmBytes_walk (ao : Option Addr) (cap : Nat) (t : List C) (w : World) (hm : t.length ≤ maxLen) (hA : Row w ao t) (hF : Fit t) (hw : WfC t) :
    Calls Try.prog 4 #[.slice ao t.length cap] w fun e w' => e = .returned (.bool true) ∧ Below w.heap.size w w' := by
  go_enter Try.func4, Try.ntmps4
  go_wp2_with fail
  refine (szTrmCellS_any ao cap t 1048576 _ hm hA hF (by omega) (by omega)).mono ?_
  rintro e w1 ⟨r, rfl, hr, hb1⟩
  by_cases hr0 : r < 0
  · go_wp2
    go_ret
    exact ⟨rfl, hb1⟩
  have hlen : t.length ≤ 1048576 := by omega
  have hfl : (encT t).length ≤ 1048576 := Nat.le_trans (encT_length t) (by omega)
  clear hr
  go_wp2_with fail
  refine (toTrmCellS_any ao cap t _ hlen (hA.below hb1)).mono ?_
  rintro e w2 ⟨rfl, ho2, hb2⟩
  have hB2 := bstep hb1 hb2
  go_wp2_with fail
  refine (specTrmBytes_any _ _ t _ (by unfold maxLen; omega) (row_of_own ho2) hF).mono ?_
  rintro e w3 ⟨v0, rfl, hv0, hb3⟩
  have hB3 := bstep hB2 hb3
  obtain ⟨ao0, cap0, rfl, _⟩ := hv0.shape
  obtain ⟨z, hz⟩ : ∃ z, z = encT t := ⟨_, rfl⟩
  rw [← hz] at hv0 hfl
  rw [← hz]
  have HZ := hide hz
  clear hz
  have hzm : z.length ≤ maxLen := by unfold maxLen; omega
  go_wp2_with fail
  refine (toTrmCellS_any ao cap t _ hlen (hA.below hB3)).mono ?_
  rintro e w4 ⟨rfl, ho4, hb4⟩
  have hB4 := bstep hB3 hb4
  go_wp2_with fail
  refine (implTrmBytes_any _ _ t _ (by unfold maxLen; omega) (row_of_own ho4) hF).mono ?_
  rw [← unhide HZ]
  rintro e w5 ⟨v1, rfl, hv1, hb5⟩
  have hB5 := bstep hB4 hb5
  have hC5 := bstep hb4 hb5
  obtain ⟨ao1, cap1, rfl, _⟩ := hv1.shape
  go_wp2_with fail
  refine (eqByteS_any _ _ _ _ z z _ hzm hv1.row (hv0.below hC5).row).mono ?_
  rw [decide_eq_yes rfl]
  rintro e w6 ⟨rfl, hb6⟩
  have hB6 := bstep hB5 hb6
  have hC6 := bstep hC5 hb6
  go_wp2_with fail
  refine (toTrmCellS_any ao cap t _ hlen (hA.below hB6)).mono ?_
  rintro e w7 ⟨rfl, ho7, hb7⟩
  have hB7 := bstep hB6 hb7
  have hC7 := bstep hC6 hb7
  have hx7 := own_below (toC (n := 0) ho4) (bstep (bstep hb5 hb6) hb7)
  go_wp2_with fail
  refine (eqTrmCellS_any _ _ _ _ t t _ hm (OwnC.row hx7) (row_of_own ho7)).mono ?_
  rw [sameS_yes rfl]
  rintro e w8 ⟨rfl, hb8⟩
  have hB8 := bstep hB7 hb8
  have hC8 := bstep hC7 hb8
  have hx8 : OwnC w8 w3.heap.size (.slice (some ⟨w3.heap.size, 0, none⟩) t.length t.length) t := own_below hx7 hb8
  have hg8 := hv1.below (bstep (bstep hb6 hb7) hb8)
  go_wp2_with fail
  refine (markTrmCellS_one _ _ t w3.heap.size _ hlen hx8).mono ?_
  rintro e w9 ⟨rfl, hx9, hG9⟩
  have hB9 := below_row hB8 hG9 hx8 (by exact hB3.size)
  have hC9 := below_row hC8 hG9 hx8 (Nat.le_refl _)
  have hg9 : OwnY w9 w4.heap.size (.slice ao1 z.length cap1) z := own_apart hg8 hG9 (fun k e => .inl (by have := hb4.size; have := ho4.lt k e; omega))
  have hpos : ¬ ((1 + 3 * (t.length : Int)) < 0) := by omega
  go_wp2_with fail
  refine (eqByteS_any _ _ _ _ z z _ hzm hg9.row (hv0.below hC9).row).mono ?_
  rw [decide_eq_yes rfl]
  rintro e w10 ⟨rfl, hb10⟩
  have hB10 := bstep hB9 hb10
  have hC10 := bstep hC9 hb10
  have hg10 := hg9.below hb10
  go_wp2_with fail
  refine (markByteS_one _ _ z w4.heap.size _ hfl hg10).mono ?_
  rintro e w11 ⟨rfl, hg11, hG11⟩
  have hB11 := below_row hB10 hG11 hg10 (by exact hB4.size)
  have hC11 := below_row hC10 hG11 hg10 (by exact hb4.size)
  go_wp2_with fail
  refine (heldByteS_one _ _ z.length _ hfl hg11.row).mono ?_
  rintro e w12 ⟨rfl, e12⟩
  have hb12 : Below w11.heap.size w11 w12 := by rw [e12]; exact Below.refl _ _
  clear e12
  have hB12 := bstep hB11 hb12
  have hC12 := bstep hC11 hb12
  have hg12 := hg11.below hb12
  have hne2 : ((1 + (z.length : Int)) != (1 + (z.length : Int))) = false := by simp
  go_wp2_with fail
  refine (toTrmCellS_any ao cap t _ hlen (hA.below hB12)).mono ?_
  rintro e w13 ⟨rfl, ho13, hb13⟩
  have hB13 := bstep hB12 hb13
  have hC13 := bstep hC12 hb13
  go_wp2_with fail
  refine (implTrmBytes_any _ _ t _ (by unfold maxLen; omega) (row_of_own ho13) hF).mono ?_
  rw [← unhide HZ]
  rintro e w14 ⟨v2, rfl, hv2, hb14⟩
  have hB14 := bstep hB13 hb14
  have hC14 := bstep hC13 hb14
  obtain ⟨ao2, cap2, rfl, _⟩ := hv2.shape
  go_wp2_with fail
  refine (eqByteS_any _ _ _ _ z z _ hzm hv2.row (hv0.below hC14).row).mono ?_
  rw [decide_eq_yes rfl]
  rintro e w15 ⟨rfl, hb15⟩
  have hB15 := bstep hB14 hb15
  have hg15 := hg12.below (bstep (bstep hb13 hb14) hb15)
  go_wp2_with fail
  refine (heldByteS_one _ _ z.length _ hfl hg15.row).mono ?_
  rintro e w16 ⟨rfl, e16⟩
  have hb16 : Below w15.heap.size w15 w16 := by rw [e16]; exact Below.refl _ _
  clear e16
  have hB16 := bstep hB15 hb16
  go_wp2
  go_ret
  exact ⟨rfl, hB16⟩
end Go.Proofs.Ytjinbinnjpjniaa
