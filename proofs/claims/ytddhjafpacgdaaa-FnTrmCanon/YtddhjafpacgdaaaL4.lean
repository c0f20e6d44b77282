/- The walk of the law FnTrmShift. -/
import Derived.Test.YtddhjafpacgdaaaL3
import Derived.Test.YtddhjafpacgdaaaT8
namespace Go.Proofs.Ytddhjafpacgdaaa
open Go.RowKit
set_option linter.unusedVariables false
set_option linter.unusedSimpArgs false

theorem OwnC.shape2 {w : World} {base : Nat} {v : Value} {t : List C} (h : OwnC w base v t) : ∃ ao cap, v = .slice ao t.length cap ∧ t.length ≤ cap ∧ cap ≤ maxLen ∧ Row w ao t := by
  obtain ⟨ao, cap, e, hR⟩ := h.shape
  refine ⟨ao, cap, e, ?_, ?_, hR⟩
  · rcases h.2 with ⟨e1, h2⟩ | ⟨g, cap', cur, e1, _, _, h3, h4, _⟩
    · omega
    · rw [e] at e1; cases e1; exact h3
  · rcases h.2 with ⟨e1, h2⟩ | ⟨g, cap', cur, e1, _, _, h3, h4, _⟩
    · rw [e] at e1
      injection e1 with _ _ e3
      rw [e3]; simp [maxLen]
    · rw [e] at e1; cases e1; exact h4

theorem shiftC_zero (c : C) : shiftC 0 c = c := by unfold shiftC; split <;> simp
theorem shiftOf_zero {t : List C} (h : trm t = true) : shiftOf t 0 = t := by
  rw [shiftOf_in h (by omega) (by omega)]
  have e : t.map (shiftC 0) = t := by
    conv => rhs; rw [← List.map_id t]
    exact List.map_congr_left (fun c _ => shiftC_zero c)
  rw [e, listed, h]; rfl
theorem shiftC_two (a b : Int) (c : C) : shiftC b (shiftC a c) = shiftC (a + b) c := by
  unfold shiftC
  by_cases h : c.k = 1
  · simp [h]; omega
  · simp [h]
theorem listed_ne {t : List C} (h : (listed t).length ≠ 0) : trm t = true ∧ listed t = t := by
  unfold listed at h ⊢
  by_cases e : trm t = true
  · rw [if_pos e]; exact ⟨e, rfl⟩
  · rw [if_neg e] at h; simp at h
theorem shiftOf_ne {t : List C} {n : Int} (h : (shiftOf t n).length ≠ 0) : 0 ≤ n ∧ n ≤ 99999 ∧ trm (t.map (shiftC n)) = true ∧ shiftOf t n = t.map (shiftC n) := by
  unfold shiftOf at h ⊢
  by_cases e : trm t = true ∧ 0 ≤ n ∧ n ≤ 99999
  · rw [if_pos e] at h ⊢
    obtain ⟨h1, h2⟩ := listed_ne h
    exact ⟨e.2.1, e.2.2, h1, h2⟩
  · rw [if_neg e] at h; simp at h
theorem shift_two {t : List C} (h : trm t = true) (h2 : (shiftOf (shiftOf t 1) 2).length ≠ 0) : shiftOf (shiftOf t 1) 2 = shiftOf t 3 := by
  by_cases h1 : (shiftOf t 1).length = 0
  · rw [List.length_eq_zero_iff.1 h1] at h2
    simp [shiftOf, trm_nil] at h2
  · obtain ⟨_, _, ht, e⟩ := shiftOf_ne h1
    rw [e, shiftOf_in ht (by omega) (by omega), shiftOf_in h (by omega) (by omega), List.map_map]
    congr 1
    exact List.map_congr_left (fun c _ => shiftC_two 1 2 c)

theorem shiftOf_fit {t : List C} {n : Int} (h : Fit t) : Fit (shiftOf t n) := by
  unfold shiftOf listed
  split
  · split
    · exact fit_shift h
    · exact fun c hc => by cases hc
  · exact fun c hc => by cases hc

theorem back_var {n : Int} {c : C} (h : c.k = 1) : (⟨(shiftC n c).k, (shiftC n c).n - n, (shiftC n c).s⟩ : C) = c := by
  rw [shiftC_var h]; simp

set_option maxRecDepth 100000 in
set_option maxHeartbeats 4000000 in
theorem FnTrmShift_walk (ao : Option Addr) (len cap : Nat) (zz : Nat → Int) (w : World) (h : Bin w ao len cap zz) :
    Calls Try.prog 4 #[.slice ao len cap] w fun e w' => e = .returned (.bool true) ∧ Below w.heap.size w w' := by
  have hmx : len ≤ 9223372036854775807 := by have := h.1; have := h.2.1; unfold maxLen at this; omega
  by_cases hbig : len ≤ 1048576
  · go_enter Try.func4, Try.ntmps4
    go_wp2_with fail
    refine (drawTrmShift_any ao len cap zz _ h).mono ?_
    rintro e w1 ⟨v, t, n, rfl, hO1, ht41, hDc, hwn, hb1⟩
    obtain ⟨hFit, hWf⟩ := dc_fit hDc
    have HF := hide hFit
    clear hDc hFit hWf
    obtain ⟨a1, c1, rfl, hc1, hcm1, hR1⟩ := hO1.shape2
    have hml : t.length ≤ maxLen := by unfold maxLen; omega
    have hlen : t.length ≤ 1048576 := by omega
    have HCM := hide hcm1
    have HC := hide hc1
    clear hcm1 hc1
    go_wp2_with fail
    refine (TrmShift_any a1 c1 t n _ hml (unhide HC) (unhide HCM) hR1 (unhide HF)).mono ?_
    rintro e w2 ⟨v2, rfl, hO2, hb2⟩
    have hB2 := bstep hb1 hb2
    have hT2 := OwnC.below hO1 hb2
    obtain ⟨X, hX⟩ : ∃ X, X = shiftOf t n := ⟨_, rfl⟩
    rw [← hX] at hO2
    have HX := hide hX
    have hXl : X.length ≤ t.length := by rw [hX]; exact shiftOf_len t n
    clear hX
    obtain ⟨a2, c2, rfl, hR2⟩ := hO2.shape
    go_wp2_with fail
    refine (specTrmShift_any a1 c1 t n _ hml hT2.row (unhide HF)).mono ?_
    rw [← unhide HX]
    rintro e w3 ⟨v3, rfl, hO3, hb3⟩
    have hB3 := bstep hB2 hb3
    have hT3 := OwnC.below hT2 hb3
    have hX3 := OwnC.below hO2 hb3
    obtain ⟨a3, c3, rfl, hR3⟩ := hO3.shape
    go_wp2_with fail
    refine (caTerm_any a2 a3 c2 c3 X X _ (by omega) hX3.row hR3).mono ?_
    rw [sameS_yes rfl]
    rintro e w4 ⟨rfl, hb4⟩
    have hB4 := bstep hB3 hb4
    have hT4 := OwnC.below hT3 hb4
    have hX4 := OwnC.below hX3 hb4
    go_wp2_with fail
    refine (specTrmOk_any a1 c1 t _ hml hT4.row (unhide HF)).mono ?_
    rintro e w5 ⟨rfl, hb5⟩
    have hB5 := bstep hB4 hb5
    have hT5 := OwnC.below hT4 hb5
    have hX5 := OwnC.below hX4 hb5
    cases hok : trm t with
    | false =>
      have hx0 : X.length = 0 := by rw [unhide HX, shiftOf_no hok]; rfl
      have hz : ((X.length : Int) == 0) = true := by simp [hx0]
      clear hx0
      go_wp2_with fail
      refine (caOk_any _).mono ?_
      rintro e w6 ⟨rfl, hb6⟩
      go_wp2
      go_ret
      exact ⟨rfl, bstep hB5 hb6⟩
    | true =>
      have HOK := hide hok
      have HTS := hide (fun h2 => shift_two (unhide HOK) h2)
      clear hok
      have H6 := hide (TrmShift_any a1 c1 t 0 w5 hml (unhide HC) (unhide HCM) hT5.row (unhide HF))
      rw [shiftOf_zero (unhide HOK)] at H6
      go_wp2_with fail
      refine (unhide H6).mono ?_
      rintro e w6 ⟨v6, rfl, hO6, hb6⟩
      clear H6
      have hB6 := bstep hB5 hb6
      have hT6 := OwnC.below hT5 hb6
      have hX6 := OwnC.below hX5 hb6
      obtain ⟨a6, c6, rfl, hR6⟩ := hO6.shape
      go_wp2_with fail
      refine (caTerm_any a6 a1 c6 c1 t t _ hml hR6 hT6.row).mono ?_
      rw [sameS_yes rfl]
      rintro e w7 ⟨rfl, hb7⟩
      have hB7 := bstep hB6 hb7
      have hT7 := OwnC.below hT6 hb7
      have hX7 := OwnC.below hX6 hb7
      by_cases hx0 : X.length = 0
      · have hz : ((X.length : Int) == 0) = true := by simp [hx0]
        clear hx0
        go_wp2_with fail
        refine (caOk_any _).mono ?_
        rintro e w8 ⟨rfl, hb8⟩
        go_wp2
        go_ret
        exact ⟨rfl, bstep hB7 hb8⟩
      · have hz : ((X.length : Int) == 0) = false := by simpa using hx0
        obtain ⟨hn0, hn1, htX, hXe⟩ := shiftOf_ne (t := t) (n := n) (by rw [← unhide HX]; exact hx0)
        have HXE := hide ((unhide HX).trans hXe)
        have HXL : Hid (X.length = t.length) := by show X.length = t.length; rw [unhide HXE, List.length_map]
        clear hXe htX
        have htl := (trm_len (unhide HOK)).1
        obtain ⟨g2, d2, hv2, _, _, _⟩ := own_some hX7 (by omega)
        simp only [Value.slice.injEq] at hv2
        obtain ⟨rfl, _, rfl⟩ := hv2
        obtain ⟨g1, d1, hv1, _, hgl1, _⟩ := own_some hT7 htl
        simp only [Value.slice.injEq] at hv1
        obtain ⟨rfl, _, rfl⟩ := hv1
        have HAX := hide (owns_at hX7 rfl)
        have HAT := hide (owns_at hT7 rfl)
        go_wp2
        go_loopw [6] (fun i wr => ∃ k : Nat, k ≤ t.length ∧ i = .int .i64 k ∧ Below w7.heap.size w7 wr) (fun i _ => t.length - (intOf i).toNat)
        case atStart => exact ⟨0, Nat.zero_le _, rfl, Below.refl _ _⟩
        case round =>
          obtain ⟨k, hk, rfl, hB⟩ := hrel
          have hB8 := bstep hB7 hB
          by_cases hlt : k < t.length
          · have hkx : k < X.length := by rw [unhide HXL]; exact hlt
            obtain ⟨e0, e1, e2⟩ := ((unhide HAT).below hB) k hlt
            have hgl : g1 < wr.heap.size := by have := hB.size; omega
            have hgne : g1 ≠ wr.heap.size := by omega
            obtain ⟨f0, f1, f2⟩ := ((unhide HAX).below hB) k hkx
            have hdx : X[k] = shiftC n t[k] := by
              have := unhide HXE
              subst this
              rw [List.getElem_map]
            have hokc := ((trm_iff t).1 (unhide HOK)).2.2.1 _ (List.getElem_mem hlt)
            obtain ⟨d, hd⟩ : ∃ d, d = X[k] := ⟨_, rfl⟩
            rw [← hd] at f0 f1 f2 hdx
            obtain ⟨c, hc⟩ : ∃ c, c = t[k] := ⟨_, rfl⟩
            rw [← hc] at e0 e1 e2 hdx hokc
            clear hd hc
            simp only [Nat.zero_add] at e0 e1 e2 f0 f1 f2
            by_cases hk1 : c.k = 1
            · have hb : (c.k == 1) = true := by simpa using hk1
              have hrg := (okC1 hk1).1 hokc
              have hneq := neq_cell ⟨d.k, d.n - n, d.s⟩ c
              have hbk : (⟨d.k, d.n - n, d.s⟩ : C) = c := by rw [hdx]; exact back_var hk1
              rw [(same_iff _ _).2 hbk] at hneq
              dsimp only at hneq
              have hdn : d.n = c.n + n := by rw [hdx, shiftC_var hk1]
              have hd0 : 0 ≤ d.n := by omega
              have hd1 : d.n ≤ 199998 := by omega
              clear hbk hdx hdn hk1 hokc hrg
              go_wp2
              go_quiet (fail)
              go_wp2
              go_roundw
              case rel => exact ⟨k + 1, by omega, by go_num, by first | exact below_drewN ((hB.alloc hB.size _)) _ | skip⟩
              case measure => simp [intOf]; omega
            · have hb : (c.k == 1) = false := by simpa using hk1
              rw [shiftC_other hk1] at hdx
              subst hdx
              have hneq := neq_cell d d
              rw [(same_iff _ _).2 rfl] at hneq
              clear hk1 hokc
              go_wp2
              go_quiet (fail)
              go_wp2
              go_roundw
              case rel => exact ⟨k + 1, by omega, by go_num, by first | exact below_drewN ((hB.alloc hB.size _)) _ | skip⟩
              case measure => simp [intOf]; omega
          · have hT8 := OwnC.below hT7 hB
            have H9 := hide (TrmShift_any (some ⟨g1, 0, none⟩) c1 t 1 wr hml (unhide HC) (unhide HCM) hT8.row (unhide HF))
            go_wp2_with fail
            refine (unhide H9).mono ?_
            clear H9
            rintro e w9 ⟨v9, rfl, hO9, hb9⟩
            have hB9 := bstep hB8 hb9
            have hT9 := OwnC.below hT8 hb9
            obtain ⟨Y, hY⟩ : ∃ Y, Y = shiftOf t 1 := ⟨_, rfl⟩
            rw [← hY] at hO9 HTS
            have HYF : Hid (Fit Y) := by rw [hY]; exact shiftOf_fit (unhide HF)
            have hYl : Y.length ≤ t.length := by rw [hY]; exact shiftOf_len t 1
            clear hY
            obtain ⟨a9, c9, rfl, hc9, hcm9, hR9⟩ := hO9.shape2
            have H10 := hide (TrmShift_any a9 c9 Y 2 w9 (by omega) hc9 hcm9 hR9 (unhide HYF))
            clear hc9 hcm9
            go_wp2_with fail
            refine (unhide H10).mono ?_
            clear H10
            rintro e w10 ⟨v10, rfl, hO10, hb10⟩
            have hB10 := bstep hB9 hb10
            have hT10 := OwnC.below hT9 hb10
            obtain ⟨Z, hZ⟩ : ∃ Z, Z = shiftOf Y 2 := ⟨_, rfl⟩
            rw [← hZ] at hO10 HTS
            have hZl : Z.length ≤ t.length := by rw [hZ]; exact Nat.le_trans (shiftOf_len Y 2) hYl
            clear hZ
            obtain ⟨a10, c10, rfl, hR10⟩ := hO10.shape
            by_cases hz0 : Z.length = 0
            · have hzz : ((Z.length : Int) == 0) = true := by simp [hz0]
              clear hz0
              go_wp2
              go_ret
              exact ⟨rfl, hB10⟩
            · have hzz : ((Z.length : Int) == 0) = false := by simpa using hz0
              have HZ3 := hide (unhide HTS hz0)
              have H11 := hide (TrmShift_any (some ⟨g1, 0, none⟩) c1 t 3 w10 hml (unhide HC) (unhide HCM) hT10.row (unhide HF))
              rw [← unhide HZ3] at H11
              clear hz0 HTS HZ3
              go_wp2_with fail
              refine (unhide H11).mono ?_
              clear H11
              rintro e w11 ⟨v11, rfl, hO11, hb11⟩
              have hB11 := bstep hB10 hb11
              have hZ11 := OwnC.below hO10 hb11
              obtain ⟨a11, c11, rfl, hR11⟩ := hO11.shape
              go_wp2_with fail
              refine (caTerm_any a10 a11 c10 c11 Z Z _ (by omega) hZ11.row hR11).mono ?_
              rw [sameS_yes rfl]
              rintro e w12 ⟨rfl, hb12⟩
              go_wp2
              go_ret
              exact ⟨rfl, bstep hB11 hb12⟩
  · go_enter Try.func4, Try.ntmps4
    go_wp2
    go_ret
    exact ⟨rfl, Below.refl _ _⟩
end Go.Proofs.Ytddhjafpacgdaaa
