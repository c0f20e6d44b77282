/- The walk of the law FnTrmArgs. -/
import Derived.Test.YtcbgpoofepchmaaL5
import Derived.Test.YtcbgpoofepchmaaT9
import Derived.Test.YtcbgpoofepchmaaT6
namespace Go.Proofs.Ytcbgpoofepchmaa
open Go.RowKit
set_option linter.unusedVariables false
set_option linter.unusedSimpArgs false

theorem rows_apart {w : World} {b1 e1 s1 n1 b2 e2 s2 n2 : Nat} {v1 v2 : Value} {xs ys : List Value} (h1 : w.ownsRow b1 e1 s1 v1 n1 xs) (h2 : w.ownsRow b2 e2 s2 v2 n2 ys) (he : e1 ≠ e2) : v1 = .slice none 0 0 ∨ v1.ownBlock ≠ v2.ownBlock := by
  rcases h1.2 with ⟨rfl, _⟩ | ⟨g, cap, cur, rfl, _, hgb, _⟩
  · exact .inl rfl
  · refine .inr fun e => ?_
    rcases h2.2 with ⟨rfl, _⟩ | ⟨g', cap', cur', rfl, _, hgb', _⟩
    · simp [Value.ownBlock] at e
    · obtain rfl : g = g' := by simpa [Value.ownBlock] using e
      rw [hgb] at hgb'
      simp at hgb'
      exact he hgb'.2

theorem row_shape {w : World} {base e size n : Nat} {v : Value} {xs : List Value} (h : w.ownsRow base e size v n xs) : ∃ ra rc, v = .slice ra n rc := by
  rcases h.2 with ⟨e1, e2⟩ | ⟨g, cap', cur, e1, _⟩
  · exact ⟨none, 0, by rw [e1, e2]⟩
  · exact ⟨_, _, e1⟩

theorem row_some {w : World} {base e size n : Nat} {v : Value} {xs : List Value} (h : w.ownsRow base e size v n xs) (hn : 0 < n) : ∃ g rc, v = .slice (some ⟨g, 0, none⟩) n rc := by
  rcases h.2 with ⟨e1, e2⟩ | ⟨g, cap', cur, e1, _⟩
  · omega
  · exact ⟨_, _, e1⟩

/-- A row of slices of the call's own, each of which leads to places of the call's own. -/
def RowS (w : World) (base : Nat) (v : Value) (ts : List (List C)) : Prop :=
  ∃ vs : List Value, w.ownsRow base 23 1 v ts.length vs ∧ ∀ i, (h : i < ts.length) → ∃ u, vs[i]? = some u ∧ OwnC w base u ts[i]

theorem RowS.below {w w' : World} {base : Nat} {v : Value} {ts : List (List C)} (h : RowS w base v ts) (hb : Below w.heap.size w w') : RowS w' base v ts := by
  obtain ⟨vs, h1, h2⟩ := h
  exact ⟨vs, own_below h1 hb, fun i hi => by obtain ⟨u, e, ho⟩ := h2 i hi; exact ⟨u, e, ho.below hb⟩⟩

theorem RowS.at {w : World} {base g cap : Nat} {ts : List (List C)} (h : RowS w base (.slice (some ⟨g, 0, none⟩) ts.length cap) ts) : AtS w g 0 ts := fun i hi => by
  obtain ⟨vs, h1, h2⟩ := h
  obtain ⟨u, e, ho⟩ := h2 i hi
  obtain ⟨ao, cap', rfl, q1, q2, q3⟩ := ho.shape2
  have := h1.cellAt i (by omega)
  rw [e] at this
  rw [Nat.zero_add]
  exact ⟨ao, cap', this, q1, q2, q3⟩

theorem RowS.app {w w1 : World} {base : Nat} {v v' u : Value} {ts : List (List C)} {t : List C} {vs : List Value} (h1 : w.ownsRow base 23 1 v ts.length vs) (h2 : ∀ i, (h : i < ts.length) → ∃ u, vs[i]? = some u ∧ OwnC w base u ts[i]) (hu : OwnC w base u t)
    (hown' : w1.ownsRow base 23 1 v' (ts.length + 1) (vs ++ [u])) (hgrow : (w.alloc (.cells #[u] 23)).grownBy w1 v.ownBlock) : RowS w1 base v' (ts ++ [t]) := by
  have keep : ∀ {x : Value} {q : List C}, OwnC w base x q → OwnC w1 base x q := fun hx =>
    World.ownsRow.kept (World.ownsRow.alloc hx _) hgrow (by
      rcases rows_apart hx h1 (by decide) with h | h
      · exact .inl (by rw [h]; rfl)
      · exact .inr h)
  refine ⟨vs ++ [u], by rw [List.length_append]; exact hown', fun i hi => ?_⟩
  have hvl : vs.length = ts.length := by have := h1.1; omega
  rw [List.length_append, List.length_singleton] at hi
  by_cases h : i < ts.length
  · obtain ⟨x, e, ho⟩ := h2 i h
    refine ⟨x, by rw [List.getElem?_append_left (by omega)]; exact e, ?_⟩
    rw [List.getElem_append_left h]
    exact keep ho
  · obtain rfl : i = ts.length := by omega
    refine ⟨u, by rw [List.getElem?_append_right (by omega), hvl, Nat.sub_self]; rfl, ?_⟩
    rw [List.getElem_append_right (Nat.le_refl _)]
    simp only [Nat.sub_self, List.getElem_cons_zero]
    exact keep hu

theorem make_back {f : Nat} {c : C} {ks : List (List C)} (hy : trm (c :: ks.flatten) = true) (h3 : c.k = 3) (hn : c.n = ks.length) (hk : ∀ k ∈ ks, Tm f k) : makeOf c.s ks = c :: ks.flatten := by
  rw [makeOf_all (fun t ht => arg_trm hy hk ht)]
  have e : (⟨3, ks.length, c.s⟩ : C) = c := by
    cases c with
    | mk k n s => simp at h3 hn; simp [h3, hn]
  rw [e, listed, hy]; rfl

set_option maxHeartbeats 4000000 in
theorem FnTrmArgs_walk (ao : Option Addr) (len cap : Nat) (zz : Nat → Int) (w : World) (h : Bin w ao len cap zz) :
    Calls Try.prog 10 #[.slice ao len cap] w fun e w' => e = .returned (.bool true) ∧ Below w.heap.size w w' := by
  have hmx : len ≤ 9223372036854775807 := by have := h.1; have := h.2.1; unfold maxLen at this; omega
  by_cases hbig : len ≤ 1048576
  · go_enter Try.func10, Try.ntmps10
    go_wp2_with fail
    refine (drawTrmOk_any ao len cap zz _ h).mono ?_
    rintro e w1 ⟨v, t, rfl, hO1, ht41, hDc, hb1⟩
    obtain ⟨hFit, hWf⟩ := dc_fit hDc
    have HF := hide hFit
    clear hDc hFit hWf
    obtain ⟨a1, c1, rfl, hc1, hcm1, hR1⟩ := hO1.shape2
    have hml : t.length ≤ maxLen := by unfold maxLen; omega
    have HCM := hide hcm1
    have HC := hide hc1
    clear hcm1 hc1
    go_wp2_with fail
    refine (specTrmOk_any a1 c1 t _ hml hR1 (unhide HF)).mono ?_
    rintro e w2 ⟨rfl, hb2⟩
    have hB2 := bstep hb1 hb2
    have hT2 := OwnC.below hO1 hb2
    cases hok : trm t with
    | false =>
      have H3 := hide (TrmArg_any a1 c1 t 0 w2 hml (unhide HC) (unhide HCM) hT2.row (unhide HF))
      rw [argOf_no hok] at H3
      go_wp2_with fail
      refine (unhide H3).mono ?_
      clear H3
      rintro e w3 ⟨v3, rfl, hO3, hb3⟩
      obtain ⟨a3, c3, rfl, _⟩ := hO3.shape
      simp only [List.length_nil]
      go_wp2_with fail
      refine (caOk_any _).mono ?_
      rintro e w4 ⟨rfl, hb4⟩
      go_wp2
      go_ret
      exact ⟨rfl, bstep (bstep hB2 hb3) hb4⟩
    | true =>
      obtain ⟨f, c, ks, htk, hkl, hks⟩ := trm_kids hok
      obtain ⟨g1, d1, hv1, _, hgl1, _⟩ := own_some hT2 (trm_len hok).1
      simp only [Value.slice.injEq] at hv1
      obtain ⟨rfl, _, rfl⟩ := hv1
      have hA2 := owns_at hT2 rfl
      obtain ⟨e0, e1, e2⟩ := hA2 0 (trm_len hok).1
      have h0c : t[0]'(trm_len hok).1 = c := by subst htk; rfl
      rw [h0c] at e0 e1 e2
      simp at e0 e1 e2
      have hpos := (trm_len hok).1
      by_cases hk3 : c.k = 3
      · have hb : (c.k != 3) = false := by simpa using hk3
        have hkn : c.n = ks.length := by rw [hkl]; simp [ari, hk3]
        have hks3 : ks.length ≤ 3 := by have := (ari_ok (((trm_iff t).1 hok).2.2.1 c (by rw [htk]; simp))).2; omega
        have HAK : Hid (∀ j, (hj : j < ks.length) → argOf t (j : Int) = ks[j] ∧ trm ks[j] = true) := fun j hj => by
          rw [htk] at hok ⊢
          rw [argOf_at hok hkl hks (by omega), Int.toNat_natCast, List.getElem?_eq_getElem hj]
          exact ⟨rfl, arg_trm hok hks (List.getElem_mem hj)⟩
        have HAE : Hid (argOf t c.n = []) := by
          show argOf t c.n = []
          rw [htk] at hok ⊢
          rw [argOf_at hok hkl hks (by omega), hkn, Int.toNat_natCast, List.getElem?_eq_none (Nat.le_refl _)]; rfl
        have HMK : Hid (makeOf c.s ks = t) := by
          show makeOf c.s ks = t
          rw [htk] at hok ⊢
          exact make_back hok hk3 hkn hks
        have HLK : Hid (t.length = 1 + ks.flatten.length) := by show t.length = _; rw [htk, List.length_cons]; omega
        have HFK : Hid (∀ q ∈ ks, Fit q) := fun q hq x hx => unhide HF x (by rw [htk]; exact List.mem_cons_of_mem _ (List.mem_flatten.2 ⟨q, hq, hx⟩))
        have hcs : c.s.size ≤ maxLen := unhide HF c (by rw [htk]; simp)
        have HLT : Hid (∀ j, (hj : j < ks.length) → (ks.take j).flatten.length + ks[j].length ≤ t.length) := fun j hj => by have h1 := len_trees ks hj; have h2 := unhide HLK; omega
        have HKN := hide hkn
        clear htk h0c hkl hks hok hk3 hkn
        obtain ⟨i0, hi, hz0, hz1, hz2⟩ := info_parts (show (Try.prog.info? 23).map (fun i => (i.zero, i.size, i.bytes)) = some (some (.slice none 0 0), 1, 24) by kernel_rfl)
        go_wp2
        go_loopw [4, 5, 6] (fun av nv i wr => ∃ (k m : Nat), k ≤ ks.length ∧ i = .int .i64 k ∧ nv = .int .i64 m ∧ m = 1 + (ks.take k).flatten.length ∧ RowS wr w2.heap.size av (ks.take k) ∧ (∃ g rc, av = .slice (some ⟨g, 0, none⟩) k rc) ∧ Below w2.heap.size w2 wr) (fun _ _ i _ => ks.length - (intOf i).toNat)
        case atStart => exact ⟨0, 1, Nat.zero_le _, rfl, rfl, rfl, ⟨[], World.ownsRow_made w2 #[] 0 (Nat.le_refl _) (by simp [maxLen]) rfl, by simp⟩, ⟨_, _, rfl⟩, cell_below _ _⟩
        case round =>
          obtain ⟨k, m, hk, rfl, rfl, hmm, hRS, ⟨ga, rc0, rfl⟩, hB⟩ := hrel
          have HMM := hide hmm
          have HRS := hide hRS
          have hBw := bstep hB2 hB
          have hT3 := OwnC.below hT2 hB
          have q0 := (hB.cell (p := ⟨g1, 0, none⟩) hgl1).trans e0
          have q1 := (hB.cell (p := ⟨g1, 1, none⟩) hgl1).trans e1
          have q2 := (hB.cell (p := ⟨g1, 2, none⟩) hgl1).trans e2
          have hkn' : c.n = (ks.length : Int) := unhide HKN
          rw [hkn'] at q1
          clear hmm hRS hkn'
          by_cases hlt : k < ks.length
          · have H3 := hide (TrmArg_any (some ⟨g1, 0, none⟩) c1 t k wr hml (unhide HC) (unhide HCM) hT3.row (unhide HF))
            have hAk := unhide HAK k hlt
            rw [hAk.1] at H3
            have HS3 := hide (fun w' (hR : Row w' (some ⟨g1, 0, none⟩) t) => specTrmArg_any (some ⟨g1, 0, none⟩) c1 t k w' hml (unhide HC) (unhide HCM) hR (unhide HF))
            rw [hAk.1] at HS3
            have hLk := unhide HLT k hlt
            have hFk := unhide HFK _ (List.getElem_mem hlt)
            have htA := hAk.2
            have hTk : ks.take (k + 1) = ks.take k ++ [ks[k]] := List.take_succ_eq_append_getElem hlt
            have HMN : Hid (m + ks[k].length = 1 + (ks.take (k + 1)).flatten.length) := by
              show m + ks[k].length = _
              rw [hTk, List.flatten_append, List.length_append, unhide HMM]; simp; omega
            have HAPP : Hid (∀ {wa wb : World} {av v' u : Value} {vs : List Value}, wa.ownsRow w2.heap.size 23 1 av (ks.take k).length vs → (∀ i, (h : i < (ks.take k).length) → ∃ u, vs[i]? = some u ∧ OwnC wa w2.heap.size u (ks.take k)[i]) → OwnC wa w2.heap.size u ks[k] → wb.ownsRow w2.heap.size 23 1 v' ((ks.take k).length + 1) (vs ++ [u]) → (wa.alloc (.cells #[u] 23)).grownBy wb av.ownBlock → RowS wb w2.heap.size v' (ks.take (k + 1))) := fun h1 h2 hu h3 h4 => by rw [hTk]; exact RowS.app h1 h2 hu h3 h4
            obtain ⟨A, hA⟩ : ∃ A, A = ks[k] := ⟨_, rfl⟩
            rw [← hA] at H3 HS3 hLk hFk htA HMN HAPP
            have hA41 : A.length ≤ 41 := by omega
            have hm41 : m ≤ 42 := by have := unhide HMM; omega
            have hkt : (ks.take k).length = k := by rw [List.length_take]; omega
            clear hA hAk hTk hLk
            go_wp2_with fail
            refine (unhide H3).mono ?_
            clear H3
            rintro e w3 ⟨v3, rfl, hO3, hb3⟩
            have hT4 := OwnC.below hT3 hb3
            obtain ⟨a3, c3, rfl, hR3⟩ := hO3.shape
            have hBB := bstep hBw hb3
            have hB3 := bstep hB hb3
            have H4 := hide (TrmOk_any a3 c3 A w3 (by unfold maxLen; omega) hR3 hFk)
            rw [htA] at H4
            go_wp2_with fail
            refine (unhide H4).mono ?_
            clear H4
            rintro e w4 ⟨rfl, hb4⟩
            have hT5 := OwnC.below hT4 hb4
            have hO4 := OwnC.below hO3 hb4
            have hB4 := bstep hB3 hb4
            go_wp2_with fail
            refine (unhide HS3 _ hT5.row).mono ?_
            rintro e w5 ⟨v5, rfl, hO5, hb5⟩
            have hO45 := OwnC.below hO4 hb5
            have hB5 := bstep hB4 hb5
            obtain ⟨a5, c5, rfl, hR5⟩ := hO5.shape
            go_wp2_with fail
            refine (caTerm_any a3 a5 c3 c5 A A _ (by unfold maxLen; omega) hO45.row hR5).mono ?_
            rw [sameS_yes rfl]
            rintro e w6 ⟨rfl, hb6⟩
            have hO6 := OwnC.base (OwnC.below hO45 hb6) hB.size
            have hB6 := bstep hB5 hb6
            obtain ⟨vs, hr1, hr2⟩ := (unhide HRS).below (bstep (bstep (bstep hb3 hb4) hb5) hb6)
            have HR2 := hide hr2
            have HO6 := hide hO6
            rw [hkt] at hr1
            clear hr2 hO6
            go_wp2_with (at_builtin; refine wpList_append_own _ rfl _ _ 32 rfl w2.heap.size 23 i0 _ 1 24 Try.underlying32 hi hz0 hz1 hz2 rfl (by decide) _ _ _ rfl (World.ownsRow.alloc hr1 _) ⟨w6.heap.size, 0, none⟩ 1 1 [.slice a3 A.length c3] rfl rfl (cell_one_new _ _ _) ?x2 ?x3 ?x4 ?x5 ?_)
            case x2 => intro u hu; simp at hu; rw [hu]; rfl
            case x3 => unfold maxLen; omega
            case x4 => omega
            case x5 => have := hB6.size; simp; omega
            intro v7 w7 hown7 hgrow7 _
            have hR7 := unhide HAPP (by rw [hkt]; exact hr1) (unhide HR2) (unhide HO6) (by rw [hkt]; exact hown7) hgrow7
            have HV7 := row_some hown7 (by omega)
            have hB7 : Below w2.heap.size w2 w7 := (hB6.alloc hB6.size _).grown hgrow7 (by have := hB6.size; simp; omega) (fun j e => by
              rcases hr1.2 with ⟨e1, _⟩ | ⟨g, cap', cur, e1, hge, _⟩
              · rw [e1] at e; simp [Value.ownBlock] at e
              · rw [e1] at e
                obtain rfl : g = j := by simpa [Value.ownBlock] using e
                exact hge)
            clear hown7 hgrow7 hr1 hkt
            go_wp2
            go_roundw
            case rel => exact ⟨k + 1, m + A.length, by omega, by go_num, by go_num, unhide HMN, hR7, HV7, hB7⟩
            case measure => simp [intOf]; omega
          · have e : k = ks.length := by omega
            subst e
            have hmt : m = t.length := by rw [unhide HMM, unhide HLK, List.take_length]
            subst hmt
            have hRS := unhide HRS
            rw [List.take_length] at hRS
            have H3 := hide (TrmMake_some ga 0 rc0 c.s ks wr hcs (by omega) hRS.at (unhide HFK) (fun q hq => by
              obtain ⟨j, hj, rfl⟩ := List.getElem_of_mem hq
              have := (trm_len (unhide HAK j hj).2).2
              unfold maxLen; omega))
            rw [unhide HMK] at H3
            have hzz : ((t.length : Int) == (t.length : Int)) = true := by simp
            have HKE := hide (unhide HKN)
            clear hRS
            go_wp2_with fail
            refine (unhide H3).mono ?_
            clear H3
            rintro e w4 ⟨v4, rfl, hO4, hb4⟩
            have hBw4 := bstep hBw hb4
            have hT4 := OwnC.below hT3 hb4
            have r1 := (hb4.cell (p := ⟨g1, 1, none⟩) (by have := hB.size; simp; omega)).trans q1
            obtain ⟨a4, c4, rfl, hR4⟩ := hO4.shape
            go_wp2_with fail
            refine (caTerm_any a4 (some ⟨g1, 0, none⟩) c4 c1 t t _ hml hR4 hT4.row).mono ?_
            rw [sameS_yes rfl]
            rintro e w5 ⟨rfl, hb5⟩
            have hBw5 := bstep hBw4 hb5
            have hT5 := OwnC.below hT4 hb5
            have r2 := (hb5.cell (p := ⟨g1, 1, none⟩) (by have := hB.size; have := hb4.size; simp; omega)).trans r1
            have H6 := hide (TrmArg_any (some ⟨g1, 0, none⟩) c1 t ks.length w5 hml (unhide HC) (unhide HCM) hT5.row (unhide HF))
            rw [← unhide HKN, unhide HAE] at H6
            rw [unhide HKN] at H6
            go_wp2_with fail
            refine (unhide H6).mono ?_
            clear H6
            rintro e w6 ⟨v6, rfl, hO6, hb6⟩
            obtain ⟨a6, c6, rfl, _⟩ := hO6.shape
            simp only [List.length_nil]
            go_wp2
            go_ret
            exact ⟨rfl, bstep hBw5 hb6⟩
      · have hb : (c.k != 3) = true := by simpa using hk3
        have hk0 : ks = [] := by
          have : ari c = 0 := by simp [ari, hk3]
          exact List.length_eq_zero_iff.1 (by omega)
        have H3 := hide (TrmArg_any (some ⟨g1, 0, none⟩) c1 t 0 w2 hml (unhide HC) (unhide HCM) hT2.row (unhide HF))
        have hE : argOf t 0 = [] := by
          rw [htk]
          rw [htk] at hok
          rw [argOf_at hok hkl hks (by omega), hk0]; rfl
        rw [hE] at H3
        clear hE hk0 hk3 htk h0c hkl hks hok
        go_wp2_with fail
        refine (unhide H3).mono ?_
        clear H3
        rintro e w3 ⟨v3, rfl, hO3, hb3⟩
        obtain ⟨a3, c3, rfl, _⟩ := hO3.shape
        simp only [List.length_nil]
        go_wp2_with fail
        refine (caOk_any _).mono ?_
        rintro e w4 ⟨rfl, hb4⟩
        go_wp2
        go_ret
        exact ⟨rfl, bstep (bstep hB2 hb3) hb4⟩
  · go_enter Try.func10, Try.ntmps10
    go_wp2
    go_ret
    exact ⟨rfl, Below.refl _ _⟩
end Go.Proofs.Ytcbgpoofepchmaa
