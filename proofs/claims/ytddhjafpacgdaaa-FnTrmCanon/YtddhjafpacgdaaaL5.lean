/- The walk of the law FnTrmCanon. -/
import Derived.Test.YtddhjafpacgdaaaL4
import Derived.Test.YtddhjafpacgdaaaPlain5
namespace Go.Proofs.Ytddhjafpacgdaaa
open Go.RowKit
set_option linter.unusedVariables false
set_option linter.unusedSimpArgs false

theorem bin_below {w w' : World} {ao : Option Addr} {len cap : Nat} {z : Nat → Int} (h : Bin w ao len cap z) (hb : Below w.heap.size w w') : Bin w' ao len cap z := by
  obtain ⟨h1, h2, h3, h4⟩ := h
  refine ⟨h1, h2, h3, h4.imp_right fun ⟨b, off, e, hc⟩ => ⟨b, off, e, fun i hi => ?_⟩⟩
  have hl := World.block_lt_of_cell? w ⟨b, _, none⟩ (hc i hi)
  exact (hb.cell (p := ⟨b, off + i, none⟩) hl).trans (hc i hi)

set_option maxRecDepth 100000 in
set_option maxHeartbeats 4000000 in
theorem FnTrmCanon_walk (ao : Option Addr) (len cap : Nat) (zz : Nat → Int) (bo : Option Addr) (len' cap' : Nat) (yy : Nat → Int) (w : World) (h : Bin w ao len cap zz) (h' : Bin w bo len' cap' yy) :
    Calls Try.prog 3 #[.slice ao len cap, .slice bo len' cap'] w fun e w' => e = .returned (.bool true) ∧ Below w.heap.size w w' := by
  have hmx : len ≤ 9223372036854775807 := by have := h.1; have := h.2.1; unfold maxLen at this; omega
  have hmx' : len' ≤ 9223372036854775807 := by have := h'.1; have := h'.2.1; unfold maxLen at this; omega
  by_cases hbig : len ≤ 1048576
  · by_cases hbig' : len' ≤ 1048576
    · have HB' := hide h'
      clear h'
      go_enter Try.func3, Try.ntmps3
      go_wp2_with fail
      refine (drawTrmCanon_any ao len cap zz _ h).mono ?_
      rintro e w0 ⟨v, t, rfl, hO0, ht41, hDc, hb0⟩
      obtain ⟨hFit, hWf⟩ := dc_fit hDc
      have HF := hide hFit
      have HW := hide hWf
      clear hDc hFit hWf h
      obtain ⟨a1, c1, rfl, hc1, hcm1, hR1⟩ := hO0.shape2
      have hml : t.length ≤ maxLen := by unfold maxLen; omega
      have hlen : t.length ≤ 1048576 := by omega
      have HCM := hide hcm1
      have HC := hide hc1
      clear hcm1 hc1
      go_wp2_with fail
      refine (drawTrmShift_any bo len' cap' yy _ (bin_below (unhide HB') hb0)).mono ?_
      rintro e w1 ⟨v1, t1, n, rfl, hO1, _, _, hwn, hb1⟩
      have hB1 := bstep hb0 hb1
      have hT1 := OwnC.below hO0 hb1
      obtain ⟨a1', c1', rfl, _⟩ := hO1.shape
      have HD := hide (TrmCanon_any a1 c1 t w1 hlen hT1.row (unhide HW))
      have HCL := hide (canonOf_length t)
      have HCW := hide (wf_canon hlen (unhide HW))
      have HCF := hide (fit_canon (unhide HF))
      have HCT := hide (canon_twice t)
      have HCO := hide (fun h => trm_canon (t := t) h)
      have HFL := hide (free_canon_len t)
      have HFG := hide (fun k hk => @free_canon_get t k hk)
      obtain ⟨D, hD⟩ : ∃ D, D = canonOf t := ⟨_, rfl⟩
      rw [← hD] at HD HCL HCW HCF HCT HCO HFL HFG
      have HDD := hide hD
      clear hD
      have hDl : D.length ≤ 1048576 := by rw [unhide HCL]; exact hlen
      go_wp2_with fail
      refine (unhide HD).mono ?_
      clear HD
      rintro e w2 ⟨v2, rfl, hO2, hb2⟩
      have hB2 := bstep hB1 hb2
      have hT2 := OwnC.below hT1 hb2
      obtain ⟨a2, c2, rfl, hR2⟩ := hO2.shape
      go_wp2_with fail
      refine (specTrmCanon_any a1 c1 t _ hlen hT2.row).mono ?_
      rw [← unhide HDD]
      rintro e w3 ⟨v3, rfl, hO3, hb3⟩
      have hB3 := bstep hB2 hb3
      have hT3 := OwnC.below hT2 hb3
      have hD3 := OwnC.below hO2 hb3
      obtain ⟨a3, c3, rfl, hR3⟩ := hO3.shape
      go_wp2_with fail
      refine (caTerm_any a2 a3 c2 c3 D D _ (by unfold maxLen; omega) hD3.row hR3).mono ?_
      rw [sameS_yes rfl]
      rintro e w4 ⟨rfl, hb4⟩
      have hB4 := bstep hB3 hb4
      have hT4 := OwnC.below hT3 hb4
      have hD4 := OwnC.below hD3 hb4
      have H5 := hide (TrmCanon_any a2 c2 D w4 hDl hD4.row (unhide HCW))
      rw [unhide HCT] at H5
      go_wp2_with fail
      refine (unhide H5).mono ?_
      clear H5
      rintro e w5 ⟨v5, rfl, hO5, hb5⟩
      have hB5 := bstep hB4 hb5
      have hT5 := OwnC.below hT4 hb5
      have hD5 := OwnC.below hD4 hb5
      obtain ⟨a5, c5, rfl, hR5⟩ := hO5.shape
      go_wp2_with fail
      refine (caTerm_any a5 a2 c5 c2 D D _ (by unfold maxLen; omega) hR5 hD5.row).mono ?_
      rw [sameS_yes rfl]
      rintro e w6 ⟨rfl, hb6⟩
      have hB6 := bstep hB5 hb6
      have hT6 := OwnC.below hT5 hb6
      have hD6 := OwnC.below hD5 hb6
      have hne : ((D.length : Int) != (t.length : Int)) = false := by rw [unhide HCL]; simp
      have H7 := hide (TrmFree_any a2 c2 D w6 hDl hD6.row (unhide HCW))
      obtain ⟨z, hz⟩ : ∃ z, z = freeOf D := ⟨_, rfl⟩
      rw [← hz] at H7 HFL HFG
      have hzl : z.length ≤ 1048576 := by rw [hz]; exact Nat.le_trans (freeOf_len D) hDl
      clear hz
      go_wp2_with fail
      refine (unhide H7).mono ?_
      clear H7
      rintro e w7 ⟨v7, rfl, hO7, hb7⟩
      have hB7 := bstep hB6 hb7
      have hT7 := OwnC.below hT6 hb7
      have hD7 := OwnC.below hD6 hb7
      obtain ⟨a7, c7, rfl, hR7⟩ := hO7.shape
      have HR7 := hide hR7
      clear hR7
      go_wp2
      go_loopw [10] (fun i wr => ∃ k : Nat, k ≤ z.length ∧ i = .int .i64 k ∧ Below w7.heap.size w7 wr) (fun i _ => z.length - (intOf i).toNat)
      case atStart => exact ⟨0, Nat.zero_le _, rfl, Below.refl _ _⟩
      case round =>
        obtain ⟨k, hk, rfl, hB⟩ := hrel
        have hB8 := bstep hB7 hB
        by_cases hlt : k < z.length
        · rcases unhide HR7 with h0 | ⟨g7, o7, rfl, hF7⟩
          · rw [h0] at hlt; simp at hlt
          have e0 := (hF7.below hB) k hlt
          rw [unhide HFG k hlt] at e0
          have hq : ((k : Int) != (k : Int)) = false := by simp
          go_wp2
          go_roundw
          case rel => exact ⟨k + 1, by omega, by go_num, hB⟩
          case measure => simp [intOf]; omega
        · have hT8 := OwnC.below hT7 hB
          have hD8 := OwnC.below hD7 hB
          go_wp2_with fail
          refine (specTrmOk_any a1 c1 t _ hml hT8.row (unhide HF)).mono ?_
          rintro e w9 ⟨rfl, hb9⟩
          have hB9 := bstep hB8 hb9
          have hT9 := OwnC.below hT8 hb9
          have hD9 := OwnC.below hD8 hb9
          cases hok : trm t with
          | false =>
            go_wp2_with fail
            refine (caOk_any _).mono ?_
            rintro e w10 ⟨rfl, hb10⟩
            go_wp2
            go_ret
            exact ⟨rfl, bstep hB9 hb10⟩
          | true =>
            have hokD := unhide HCO hok
            clear hok
            have HXN := hide (@shiftOf_ne t n)
            have H10 := hide (TrmShift_any a1 c1 t n w9 hml (unhide HC) (unhide HCM) hT9.row (unhide HF))
            have hXl := shiftOf_len t n
            obtain ⟨X, hX⟩ : ∃ X, X = shiftOf t n := ⟨_, rfl⟩
            rw [← hX] at H10 HXN hXl
            clear hX
            go_wp2_with fail
            refine (unhide H10).mono ?_
            clear H10
            rintro e w10 ⟨v10, rfl, hO10, hb10⟩
            have hB10 := bstep hB9 hb10
            have hT10 := OwnC.below hT9 hb10
            have hD10 := OwnC.below hD9 hb10
            obtain ⟨a10, c10, rfl, hR10⟩ := hO10.shape
            have H11 := hide (TrmOk_any a2 c2 D w10 (by unfold maxLen; omega) hD10.row (unhide HCF))
            rw [hokD] at H11
            go_wp2_with fail
            refine (unhide H11).mono ?_
            clear H11
            rintro e w11 ⟨rfl, hb11⟩
            have hB11 := bstep hB10 hb11
            have hT11 := OwnC.below hT10 hb11
            have hD11 := OwnC.below hD10 hb11
            have hX11 := OwnC.below hO10 hb11
            clear hokD
            by_cases hx0 : X.length = 0
            · have hz0 : ((X.length : Int) == 0) = true := by simp [hx0]
              clear hx0
              have H12 := hide (TrmFree_any a1 c1 t w11 hlen hT11.row (unhide HW))
              go_wp2_with fail
              refine (unhide H12).mono ?_
              clear H12
              rintro e w20 ⟨v20, rfl, hO20, hb20⟩
              obtain ⟨a20, c20, hv20, _⟩ := hO20.shape
              rw [← unhide HFL] at hv20
              subst hv20
              have hzz : ((z.length : Int) == (z.length : Int)) = true := by simp
              go_wp2
              go_ret
              exact ⟨ret_bool (by simp), bstep hB11 hb20⟩
            · have hz0 : ((X.length : Int) == 0) = false := by simpa using hx0
              obtain ⟨_, _, htX, hXe⟩ := unhide HXN hx0
              have H13 := hide (TrmCanon_any a10 c10 X w11 (by omega) hX11.row (by rw [hXe]; exact wf_trm htX))
              have hcX : canonOf X = D := by rw [hXe, canon_shift, unhide HDD]
              rw [hcX] at H13
              clear hcX hXe htX hx0 HXN
              go_wp2_with fail
              refine (unhide H13).mono ?_
              clear H13
              rintro e w12 ⟨v12, rfl, hO12, hb12⟩
              have hB12 := bstep hB11 hb12
              have hT12 := OwnC.below hT11 hb12
              have hD12 := OwnC.below hD11 hb12
              obtain ⟨a12, c12, rfl, hR12⟩ := hO12.shape
              go_wp2_with fail
              refine (caTerm_any a12 a2 c12 c2 D D _ (by unfold maxLen; omega) hR12 hD12.row).mono ?_
              rw [sameS_yes rfl]
              rintro e w13 ⟨rfl, hb13⟩
              have hB13 := bstep hB12 hb13
              have hT13 := OwnC.below hT12 hb13
              have H12 := hide (TrmFree_any a1 c1 t w13 hlen hT13.row (unhide HW))
              go_wp2_with fail
              refine (unhide H12).mono ?_
              clear H12
              rintro e w20 ⟨v20, rfl, hO20, hb20⟩
              obtain ⟨a20, c20, hv20, _⟩ := hO20.shape
              rw [← unhide HFL] at hv20
              subst hv20
              have hzz : ((z.length : Int) == (z.length : Int)) = true := by simp
              go_wp2
              go_ret
              exact ⟨ret_bool (by simp), bstep hB13 hb20⟩
    · go_enter Try.func3, Try.ntmps3
      go_wp2
      go_ret
      exact ⟨rfl, Below.refl _ _⟩
  · go_enter Try.func3, Try.ntmps3
    go_wp2
    go_ret
    exact ⟨rfl, Below.refl _ _⟩
end Go.Proofs.Ytddhjafpacgdaaa
