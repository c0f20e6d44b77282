/- The walk of the law FnTrmArg. -/
import Derived.Test.YtcbgpoofepchmaaL6
import Derived.Test.YtcbgpoofepchmaaD8
namespace Go.Proofs.Ytcbgpoofepchmaa
open Go.RowKit
set_option linter.unusedVariables false
set_option linter.unusedSimpArgs false

set_option maxHeartbeats 4000000 in
theorem FnTrmArg_walk (ao : Option Addr) (len cap : Nat) (zz : Nat → Int) (w : World) (h : Bin w ao len cap zz) :
    Calls Try.prog 3 #[.slice ao len cap] w fun e w' => e = .returned (.bool true) ∧ Below w.heap.size w w' := by
  have hmx : len ≤ 9223372036854775807 := by have := h.1; have := h.2.1; unfold maxLen at this; omega
  by_cases hbig : len ≤ 1048576
  · go_enter Try.func3, Try.ntmps3
    go_wp2_with fail
    refine (drawTrmArg_any ao len cap zz _ h).mono ?_
    rintro e w00 ⟨v, t, x, rfl, hO00, ht41, hDc, _, hb00⟩
    obtain ⟨hFit, hWf⟩ := dc_fit hDc
    have HF := hide hFit
    clear hDc hFit hWf
    obtain ⟨a1, c1, rfl, hc1, hcm1, hR00⟩ := hO00.shape2
    have hml : t.length ≤ maxLen := by unfold maxLen; omega
    have HCM := hide hcm1
    have HC := hide hc1
    clear hcm1 hc1
    have H01 := hide (TrmArg_any a1 c1 t x w00 hml (unhide HC) (unhide HCM) hR00 (unhide HF))
    have HX0 := hide (fun h => argOf_no (t := t) (k := x) h)
    have hXl := argOf_len t x
    obtain ⟨X, hX⟩ : ∃ X, X = argOf t x := ⟨_, rfl⟩
    have HXX := hide hX
    rw [← hX] at H01 HX0 hXl
    clear hX
    go_wp2_with fail
    refine (unhide H01).mono ?_
    clear H01
    rintro e w01 ⟨v01, rfl, hO01, hb01⟩
    have hB01 := bstep hb00 hb01
    have hT01 := OwnC.below hO00 hb01
    obtain ⟨a01, c01, rfl, hR01⟩ := hO01.shape
    go_wp2_with fail
    refine (specTrmArg_any a1 c1 t x _ hml (unhide HC) (unhide HCM) hT01.row (unhide HF)).mono ?_
    rw [← unhide HXX]
    rintro e w02 ⟨v02, rfl, hO02, hb02⟩
    have hB02 := bstep hB01 hb02
    have hT02 := OwnC.below hT01 hb02
    have hX02 := OwnC.below hO01 hb02
    obtain ⟨a02, c02, rfl, hR02⟩ := hO02.shape
    go_wp2_with fail
    refine (caTerm_any a01 a02 c01 c02 X X _ (by unfold maxLen; omega) hX02.row hR02).mono ?_
    rw [sameS_yes rfl]
    rintro e w1 ⟨rfl, hb03⟩
    have hb1 := bstep hB02 hb03
    have hO1 := OwnC.below hT02 hb03
    have hR1 := hO1.row
    go_wp2_with fail
    refine (specTrmOk_any a1 c1 t _ hml hR1 (unhide HF)).mono ?_
    rintro e w2 ⟨rfl, hb2⟩
    have hB2 := bstep hb1 hb2
    have hT2 := OwnC.below hO1 hb2
    cases hok : trm t with
    | false =>
      have hz0 : ((X.length : Int) == 0) = true := by rw [unhide HX0 hok]; rfl
      go_wp2_with fail
      refine (caOk_any _).mono ?_
      rintro e w4 ⟨rfl, hb4⟩
      go_wp2
      go_ret
      exact ⟨rfl, bstep hB2 hb4⟩
    | true =>
      obtain ⟨f, c, ks, htk, hkl, hks⟩ := trm_kids hok
      obtain ⟨g1, d1, hv1, _, hgl1, _⟩ := own_some hT2 (trm_len hok).1
      simp only [Value.slice.injEq] at hv1
      obtain ⟨rfl, _, rfl⟩ := hv1
      have hA2 := owns_at hT2 rfl
      obtain ⟨e0, e1, e2⟩ := hA2 0 (trm_len hok).1
      have h0c : t[0]'(trm_len hok).1 = c := by subst htk; rfl
      rw [h0c] at e0 e1 e2
      simp at e0 e1 e2
      have hpos := (trm_len hok).1
      by_cases hk3 : c.k = 3
      · have hb : (c.k != 3) = false := by simpa using hk3
        have hkn : c.n = ks.length := by rw [hkl]; simp [ari, hk3]
        have hks3 : ks.length ≤ 3 := by have := (ari_ok (((trm_iff t).1 hok).2.2.1 c (by rw [htk]; simp))).2; omega
        have HAK : Hid (∀ j, (hj : j < ks.length) → argOf t (j : Int) = ks[j] ∧ trm ks[j] = true) := fun j hj => by
          rw [htk] at hok ⊢
          rw [argOf_at hok hkl hks (by omega), Int.toNat_natCast, List.getElem?_eq_getElem hj]
          exact ⟨rfl, arg_trm hok hks (List.getElem_mem hj)⟩
        have HAE : Hid (argOf t c.n = []) := by
          show argOf t c.n = []
          rw [htk] at hok ⊢
          rw [argOf_at hok hkl hks (by omega), hkn, Int.toNat_natCast, List.getElem?_eq_none (Nat.le_refl _)]; rfl
        have HMK : Hid (makeOf c.s ks = t) := by
          show makeOf c.s ks = t
          rw [htk] at hok ⊢
          exact make_back hok hk3 hkn hks
        have HLK : Hid (t.length = 1 + ks.flatten.length) := by show t.length = _; rw [htk, List.length_cons]; omega
        have HFK : Hid (∀ q ∈ ks, Fit q) := fun q hq x hx => unhide HF x (by rw [htk]; exact List.mem_cons_of_mem _ (List.mem_flatten.2 ⟨q, hq, hx⟩))
        have hcs : c.s.size ≤ maxLen := unhide HF c (by rw [htk]; simp)
        have HLT : Hid (∀ j, (hj : j < ks.length) → (ks.take j).flatten.length + ks[j].length ≤ t.length) := fun j hj => by have h1 := len_trees ks hj; have h2 := unhide HLK; omega
        have HKN := hide hkn
        clear htk h0c hkl hks hok hk3 hkn
        obtain ⟨i0, hi, hz0, hz1, hz2⟩ := info_parts (show (Try.prog.info? 23).map (fun i => (i.zero, i.size, i.bytes)) = some (some (.slice none 0 0), 1, 24) by kernel_rfl)
        go_wp2
        go_loopw [6, 7] (fun av i wr => ∃ (k : Nat), k ≤ ks.length ∧ i = .int .i64 k ∧ RowS wr w2.heap.size av (ks.take k) ∧ (∃ g rc, av = .slice (some ⟨g, 0, none⟩) k rc) ∧ Below w2.heap.size w2 wr) (fun _ i _ => ks.length - (intOf i).toNat)
        case atStart => exact ⟨0, Nat.zero_le _, rfl, ⟨[], World.ownsRow_made w2 #[] 0 (Nat.le_refl _) (by simp [maxLen]) rfl, by simp⟩, ⟨_, _, rfl⟩, cell_below _ _⟩
        case round =>
          obtain ⟨k, hk, rfl, hRS, ⟨ga, rc0, rfl⟩, hB⟩ := hrel
          have HRS := hide hRS
          have hBw := bstep hB2 hB
          have hT3 := OwnC.below hT2 hB
          have q0 := (hB.cell (p := ⟨g1, 0, none⟩) hgl1).trans e0
          have q1 := (hB.cell (p := ⟨g1, 1, none⟩) hgl1).trans e1
          have q2 := (hB.cell (p := ⟨g1, 2, none⟩) hgl1).trans e2
          have hkn' : c.n = (ks.length : Int) := unhide HKN
          rw [hkn'] at q1
          clear hRS hkn'
          by_cases hlt : k < ks.length
          · have H3 := hide (TrmArg_any (some ⟨g1, 0, none⟩) c1 t k wr hml (unhide HC) (unhide HCM) hT3.row (unhide HF))
            have hAk := unhide HAK k hlt
            rw [hAk.1] at H3
            have hLk := unhide HLT k hlt
            have hFk := unhide HFK _ (List.getElem_mem hlt)
            have htA := hAk.2
            have hTk : ks.take (k + 1) = ks.take k ++ [ks[k]] := List.take_succ_eq_append_getElem hlt
            have HAPP : Hid (∀ {wa wb : World} {av v' u : Value} {vs : List Value}, wa.ownsRow w2.heap.size 23 1 av (ks.take k).length vs → (∀ i, (h : i < (ks.take k).length) → ∃ u, vs[i]? = some u ∧ OwnC wa w2.heap.size u (ks.take k)[i]) → OwnC wa w2.heap.size u ks[k] → wb.ownsRow w2.heap.size 23 1 v' ((ks.take k).length + 1) (vs ++ [u]) → (wa.alloc (.cells #[u] 23)).grownBy wb av.ownBlock → RowS wb w2.heap.size v' (ks.take (k + 1))) := fun h1 h2 hu h3 h4 => by rw [hTk]; exact RowS.app h1 h2 hu h3 h4
            obtain ⟨A, hA⟩ : ∃ A, A = ks[k] := ⟨_, rfl⟩
            rw [← hA] at H3 hLk hFk htA HAPP
            have hA41 : A.length ≤ 41 := by omega
            have hkt : (ks.take k).length = k := by rw [List.length_take]; omega
            clear hA hAk hTk hLk
            go_wp2_with fail
            refine (unhide H3).mono ?_
            clear H3
            rintro e w3 ⟨v3, rfl, hO3, hb3⟩
            have hT4 := OwnC.below hT3 hb3
            obtain ⟨a3, c3, rfl, hR3⟩ := hO3.shape
            have hBB := bstep hBw hb3
            have hB3 := bstep hB hb3
            have hO6 := OwnC.base hO3 hB.size
            obtain ⟨vs, hr1, hr2⟩ := (unhide HRS).below hb3
            have HR2 := hide hr2
            have HO6 := hide hO6
            rw [hkt] at hr1
            clear hr2 hO6
            go_wp2_with (at_builtin; refine wpList_append_own _ rfl _ _ 32 rfl w2.heap.size 23 i0 _ 1 24 Try.underlying32 hi hz0 hz1 hz2 rfl (by decide) _ _ _ rfl (World.ownsRow.alloc hr1 _) ⟨w3.heap.size, 0, none⟩ 1 1 [.slice a3 A.length c3] rfl rfl (cell_one_new _ _ _) ?x2 ?x3 ?x4 ?x5 ?_)
            case x2 => intro u hu; simp at hu; rw [hu]; rfl
            case x3 => unfold maxLen; omega
            case x4 => omega
            case x5 => have := hB3.size; simp; omega
            intro v7 w7 hown7 hgrow7 _
            obtain ⟨g7, rc7, rfl⟩ := row_some hown7 (by omega)
            have hcl7 : w7.cell? ⟨g7, k, none⟩ = some (.slice a3 A.length c3) := by
              have h1 := hown7.cellAt k (by omega)
              rw [h1, List.getElem?_append_right (by have := hr1.1; omega)]
              have h2 : vs.length = k := by have := hr1.1; omega
              rw [h2, Nat.sub_self]; rfl
            have hR7 := unhide HAPP (by rw [hkt]; exact hr1) (unhide HR2) (unhide HO6) (by rw [hkt]; exact hown7) hgrow7
            have hB7 : Below w2.heap.size w2 w7 := (hB3.alloc hB3.size _).grown hgrow7 (by have := hB3.size; simp; omega) (fun j e => by
              rcases hr1.2 with ⟨e1, _⟩ | ⟨g, cap', cur, e1, hge, _⟩
              · rw [e1] at e; simp [Value.ownBlock] at e
              · rw [e1] at e
                obtain rfl : g = j := by simpa [Value.ownBlock] using e
                exact hge)
            have hOA : OwnC w7 w2.heap.size (.slice a3 A.length c3) A := World.ownsRow.kept (World.ownsRow.alloc (unhide HO6) _) hgrow7 (by
              rcases rows_apart (unhide HO6) hr1 (by decide) with h | h
              · exact .inl (by rw [h]; rfl)
              · exact .inr h)
            have H8 := hide (TrmOk_any a3 c3 A w7 (by unfold maxLen; omega) hOA.row hFk)
            rw [htA] at H8
            have HR7 := hide hR7
            clear hown7 hgrow7 hr1 hkt hOA hR7
            go_wp2_with fail
            refine (unhide H8).mono ?_
            clear H8
            rintro e w8 ⟨rfl, hb8⟩
            go_wp2
            go_roundw
            case rel => exact ⟨k + 1, by omega, by go_num, (unhide HR7).below hb8, ⟨_, _, rfl⟩, bstep hB7 hb8⟩
            case measure => simp [intOf]; omega
          · have e : k = ks.length := by omega
            subst e
            have hRS := unhide HRS
            rw [List.take_length] at hRS
            have H3 := hide (TrmMake_some ga 0 rc0 c.s ks wr hcs (by omega) hRS.at (unhide HFK) (fun q hq => by
              obtain ⟨j, hj, rfl⟩ := List.getElem_of_mem hq
              have := (trm_len (unhide HAK j hj).2).2
              unfold maxLen; omega))
            rw [unhide HMK] at H3
            have hzz : ((t.length : Int) == (t.length : Int)) = true := by simp
            have HKE := hide (unhide HKN)
            clear hRS
            go_wp2_with fail
            refine (unhide H3).mono ?_
            clear H3
            rintro e w4 ⟨v4, rfl, hO4, hb4⟩
            have hBw4 := bstep hBw hb4
            have hT4 := OwnC.below hT3 hb4
            have r1 := (hb4.cell (p := ⟨g1, 1, none⟩) (by have := hB.size; simp; omega)).trans q1
            obtain ⟨a4, c4, rfl, hR4⟩ := hO4.shape
            go_wp2_with fail
            refine (caTerm_any a4 (some ⟨g1, 0, none⟩) c4 c1 t t _ hml hR4 hT4.row).mono ?_
            rw [sameS_yes rfl]
            rintro e w5 ⟨rfl, hb5⟩
            have hBw5 := bstep hBw4 hb5
            have hT5 := OwnC.below hT4 hb5
            have r2 := (hb5.cell (p := ⟨g1, 1, none⟩) (by have := hB.size; have := hb4.size; simp; omega)).trans r1
            have H6 := hide (TrmArg_any (some ⟨g1, 0, none⟩) c1 t ks.length w5 hml (unhide HC) (unhide HCM) hT5.row (unhide HF))
            rw [← unhide HKN, unhide HAE] at H6
            rw [unhide HKN] at H6
            go_wp2_with fail
            refine (unhide H6).mono ?_
            clear H6
            rintro e w6 ⟨v6, rfl, hO6, hb6⟩
            obtain ⟨a6, c6, rfl, _⟩ := hO6.shape
            simp only [List.length_nil]
            have hT6 := OwnC.below hT5 hb6
            have H7 := hide (TrmArg_any (some ⟨g1, 0, none⟩) c1 t (-1) w6 hml (unhide HC) (unhide HCM) hT6.row (unhide HF))
            rw [argOf_neg (by omega)] at H7
            go_wp2_with fail
            refine (unhide H7).mono ?_
            clear H7
            rintro e w7 ⟨v7, rfl, hO7, hb7⟩
            obtain ⟨a7, c7, rfl, _⟩ := hO7.shape
            simp only [List.length_nil]
            go_wp2
            go_ret
            exact ⟨rfl, bstep (bstep hBw5 hb6) hb7⟩
      · have hb : (c.k != 3) = true := by simpa using hk3
        have hk0 : ks = [] := by
          have : ari c = 0 := by simp [ari, hk3]
          exact List.length_eq_zero_iff.1 (by omega)
        have hz0 : ((X.length : Int) == 0) = true := by
          have e : X = [] := by
            rw [unhide HXX]
            by_cases hx : x < 0
            · exact argOf_neg hx
            · rw [htk]
              rw [htk] at hok
              rw [argOf_at hok hkl hks (by omega), hk0]; rfl
          rw [e]; rfl
        clear hk0 hk3 htk h0c hkl hks hok
        go_wp2_with fail
        refine (caOk_any _).mono ?_
        rintro e w4 ⟨rfl, hb4⟩
        go_wp2
        go_ret
        exact ⟨rfl, bstep hB2 hb4⟩
  · go_enter Try.func3, Try.ntmps3
    go_wp2
    go_ret
    exact ⟨rfl, Below.refl _ _⟩
end Go.Proofs.Ytcbgpoofepchmaa
