/- The walk of the law FnSubSwap: to make two terms the same hangs on no order. -/
import Derived.Test.YtddhjafpacgdaaaQUF4CB1L1LU1
import Derived.Test.YtddhjafpacgdaaaQPlain3Plain6PT3PT4W16
namespace Go.Proofs.Ytddhjafpacgdaaa
open Go.RowKit
set_option linter.unusedVariables false
set_option linter.unusedSimpArgs false

set_option maxRecDepth 100000 in
set_option maxHeartbeats 4000000 in
theorem FnSubSwap_walk (ao : Option Addr) (len cap : Nat) (z : Nat → Int) (w : World) (h : Bin w ao len cap z) :
    Calls Try.prog 7 #[.slice ao len cap] w fun e w' => e = .returned (.bool true) ∧ Below w.heap.size w w' := by
  have hmx : len ≤ 9223372036854775807 := by have := h.1; have := h.2.1; unfold maxLen at this; omega
  by_cases hbig : len ≤ 1048576
  · go_enter Try.func7, Try.ntmps7
    go_wp2_with fail
    refine (drawSubUnify_any ao len cap z _ h).mono ?_
    rintro e w1 ⟨v, s, x, a, y, b, rfl, hO1, hF, hA1, hla, hDa, hB1, hlb, hDb, hb1⟩
    have HF := hide hF
    have HFA := hide (dc_fit hDa).1
    have HFB := hide (dc_fit hDb).1
    obtain ⟨sa, sc, rfl, _, _, hR1⟩ := hO1.shape
    obtain ⟨xa, xc, rfl, _⟩ := hA1.shape
    obtain ⟨ya, yc, rfl, _⟩ := hB1.shape
    have HR := hide hR1
    have HA := hide hA1
    have HB := hide hB1
    clear hF hDa hDb hO1 hR1 hA1 hB1 h
    obtain ⟨o, hh, hM⟩ := um_all s a b
    obtain ⟨p, h2, hN⟩ := um_all s b a
    have HFO := hide (um_few (unhide HF) hla hlb hM)
    have HFP := hide (um_few (unhide HF) hlb hla hN)
    obtain ⟨rfl, hsw⟩ := um_swap hM hN
    have hcd := um_codes hM
    have hcd2 := (um_codes hN).1
    have hhb : (hh != hh) = false := by simp
    by_cases e4 : hh = 4
    · subst e4
      have HM := hide hM
      have HN := hide hN
      clear hM hN hsw hcd hcd2
      have HC2 := hide (iU (sc := sc) (by omega) (unhide HF) (unhide HR) (unhide HA) (unhide HB) (unhide HFA) (unhide HFB) (unhide HM) (Below.refl _ _))
      go_wp2_with fail
      refine (unhide HC2).mono ?_
      clear HC2
      rintro e w2 ⟨v2, rfl, hOo, hb2⟩
      have hX1_2 : Below w1.heap.size w1 w2 := hb2
      obtain ⟨oa, oc, rfl, _, _, hRo⟩ := hOo.shape
      have HRo := hide hRo
      clear hOo hRo
      have HC3 := hide (iU (sc := sc) (by omega) (unhide HF) (unhide HR) (unhide HB) (unhide HA) (unhide HFB) (unhide HFA) (unhide HN) hX1_2)
      go_wp2_with fail
      refine (unhide HC3).mono ?_
      clear HC3
      rintro e w3 ⟨v3, rfl, hOp, hb3⟩
      have hX1_3 : Below w1.heap.size w1 w3 := bstep hX1_2 hb3
      have hX2_3 : Below w2.heap.size w2 w3 := hb3
      obtain ⟨pa, pc, rfl, _, _, hRp⟩ := hOp.shape
      have HRp := hide hRp
      clear hOp hRp
      have HC4 := hide (caOk_any w3)
      go_wp2_with fail
      refine (unhide HC4).mono ?_
      clear HC4
      rintro e w4 ⟨rfl, hb4⟩
      have hX1_4 : Below w1.heap.size w1 w4 := bstep hX1_3 hb4
      have hX2_4 : Below w2.heap.size w2 w4 := bstep hX2_3 hb4
      have hX3_4 : Below w3.heap.size w3 w4 := hb4
      go_wp2
      go_ret
      exact ⟨rfl, bstep hb1 hX1_4⟩
    · have hcd3 : (subOk s = true ∧ trm a = true ∧ trm b = true) ∧ (hh = 1 ∨ hh = 2 ∨ hh = 3) := by
        rcases hcd.2 with ⟨h1, _⟩ | h1
        · exact absurd h1 e4
        · exact h1
      obtain ⟨⟨hso, hta, htb⟩, hcd4⟩ := hcd3
      obtain ⟨q, h3, hS⟩ := um_all s a a
      have hidle := um_idle hso hta hta rfl hS
      have e4b : (hh == 4) = false := by simpa using e4
      have HSS := hide hS
      have HFQ := hide (um_few (unhide HF) hla hla hS)
      clear hS e4
      by_cases e1 : hh = 1
      · subst e1
        have hd := um_done hM
        obtain ⟨g1, g2, g3, g4, g5, g6⟩ := hsw rfl
        have hl1 := hd.la
        have hq1 : h3 = 1 ∧ q = s := by
          rcases hidle with ⟨i1, i2, _⟩ | ⟨_, i2⟩
          · exact ⟨i1, i2⟩
          · exact absurd hl1 i2
        obtain ⟨rfl, rfl⟩ := hq1
        obtain ⟨u, hu⟩ : ∃ u, u = app (ev o) a := ⟨_, rfl⟩
        obtain ⟨u2, hu2⟩ : ∃ u2, u2 = app (ev p) a := ⟨_, rfl⟩
        have f1 : fullB o a = some u := by rw [fullB_ev g1 g3, if_pos g4, hu]
        have f2 : fullB p a = some u2 := by rw [fullB_ev g2 g3, if_pos g5, hu2]
        have hul : u.length ≤ 41 := by rw [hu]; omega
        have hul2 : u2.length ≤ 41 := by rw [hu2]; omega
        rw [← hu, ← hu2] at g6
        have hcl : (canonOf u).length ≤ 41 := by rw [canonOf_length]; exact hul
        have HWF1 := hide (wf_trm (fullB_some f1).1)
        have HWF2 := hide (wf_trm (fullB_some f2).1)
        have HF1 := hide f1
        have HF2 := hide f2
        have HG6 := hide g6
        have HM := hide hM
        have HN := hide hN
        clear hd hl1 f1 f2 hu hu2 g1 g2 g3 g4 g5 g6 hM hN hidle hsw hcd hcd2 hcd4 hso hta htb
        have HC2 := hide (iU (sc := sc) (by omega) (unhide HF) (unhide HR) (unhide HA) (unhide HB) (unhide HFA) (unhide HFB) (unhide HM) (Below.refl _ _))
        go_wp2_with fail
        refine (unhide HC2).mono ?_
        clear HC2
        rintro e w2 ⟨v2, rfl, hOo, hb2⟩
        have hX1_2 : Below w1.heap.size w1 w2 := hb2
        obtain ⟨oa, oc, rfl, _, _, hRo⟩ := hOo.shape
        have HRo := hide hRo
        clear hOo hRo
        have HC3 := hide (iU (sc := sc) (by omega) (unhide HF) (unhide HR) (unhide HB) (unhide HA) (unhide HFB) (unhide HFA) (unhide HN) hX1_2)
        go_wp2_with fail
        refine (unhide HC3).mono ?_
        clear HC3
        rintro e w3 ⟨v3, rfl, hOp, hb3⟩
        have hX1_3 : Below w1.heap.size w1 w3 := bstep hX1_2 hb3
        have hX2_3 : Below w2.heap.size w2 w3 := hb3
        obtain ⟨pa, pc, rfl, _, _, hRp⟩ := hOp.shape
        have HRp := hide hRp
        clear hOp hRp
        have HC4 := hide (iU (sc := sc) (by omega) (unhide HF) (unhide HR) (unhide HA) (unhide HA) (unhide HFA) (unhide HFA) (unhide HSS) hX1_3)
        go_wp2_with fail
        refine (unhide HC4).mono ?_
        clear HC4
        rintro e w4 ⟨v4, rfl, hOq, hb4⟩
        have hX1_4 : Below w1.heap.size w1 w4 := bstep hX1_3 hb4
        have hX2_4 : Below w2.heap.size w2 w4 := bstep hX2_3 hb4
        have hX3_4 : Below w3.heap.size w3 w4 := hb4
        obtain ⟨qa, qc, rfl, _, _, hRq⟩ := hOq.shape
        have HRq := hide hRq
        clear hOq hRq
        have HC5 := hide (cB (sc := qc) (tc := sc) (by omega) (unhide HF) (unhide HRq) ((unhide HR).below hX1_4))
        go_wp2_with fail
        refine (unhide HC5).mono ?_
        clear HC5
        rintro e w5 ⟨rfl, hb5⟩
        have hX1_5 : Below w1.heap.size w1 w5 := bstep hX1_4 hb5
        have hX2_5 : Below w2.heap.size w2 w5 := bstep hX2_4 hb5
        have hX3_5 : Below w3.heap.size w3 w5 := bstep hX3_4 hb5
        have HC6 := hide (iF1 (k := 12) (sc := oc) (by omega) (unhide HFO) ((unhide HRo).below hX2_5) (unhide HA) (unhide HFA) hX1_5 (unhide HF1))
        go_wp2_with fail
        refine (unhide HC6).mono ?_
        clear HC6
        rintro e w6 ⟨ua, uc, rfl, hU, hb6⟩
        have hX1_6 : Below w1.heap.size w1 w6 := bstep hX1_5 hb6
        have hX2_6 : Below w2.heap.size w2 w6 := bstep hX2_5 hb6
        have hX3_6 : Below w3.heap.size w3 w6 := bstep hX3_5 hb6
        have HU := hide hU
        clear hU
        have HC7 := hide (iF1 (k := 12) (sc := pc) (by omega) (unhide HFP) ((unhide HRp).below hX3_6) (unhide HA) (unhide HFA) hX1_6 (unhide HF2))
        go_wp2_with fail
        refine (unhide HC7).mono ?_
        clear HC7
        rintro e w7 ⟨va, vc, rfl, hV, hb7⟩
        have hX1_7 : Below w1.heap.size w1 w7 := bstep hX1_6 hb7
        have hX2_7 : Below w2.heap.size w2 w7 := bstep hX2_6 hb7
        have hX3_7 : Below w3.heap.size w3 w7 := bstep hX3_6 hb7
        have hX6_7 : Below w6.heap.size w6 w7 := hb7
        have HV := hide hV
        clear hV
        have HC8 := hide (TrmCanon_any ua uc u w7 (by omega) (OwnC.row (OwnC.below (unhide HU) hX6_7)) (unhide HWF1))
        go_wp2_with fail
        refine (unhide HC8).mono ?_
        clear HC8
        rintro e w8 ⟨c8, rfl, hC8, hb8⟩
        have hX1_8 : Below w1.heap.size w1 w8 := bstep hX1_7 hb8
        have hX2_8 : Below w2.heap.size w2 w8 := bstep hX2_7 hb8
        have hX3_8 : Below w3.heap.size w3 w8 := bstep hX3_7 hb8
        have hX6_8 : Below w6.heap.size w6 w8 := bstep hX6_7 hb8
        have hX7_8 : Below w7.heap.size w7 w8 := hb8
        obtain ⟨c8a, c8c, rfl, _⟩ := OwnC.shape hC8
        have HC8 := hide hC8
        clear hC8
        have HC9 := hide (TrmCanon_any va vc u2 w8 (by omega) (OwnC.row (OwnC.below (unhide HV) hX7_8)) (unhide HWF2))
        go_wp2_with fail
        refine (unhide HC9).mono ?_
        clear HC9
        rintro e w9 ⟨c9, rfl, hC9, hb9⟩
        have hX1_9 : Below w1.heap.size w1 w9 := bstep hX1_8 hb9
        have hX2_9 : Below w2.heap.size w2 w9 := bstep hX2_8 hb9
        have hX3_9 : Below w3.heap.size w3 w9 := bstep hX3_8 hb9
        have hX6_9 : Below w6.heap.size w6 w9 := bstep hX6_8 hb9
        have hX7_9 : Below w7.heap.size w7 w9 := bstep hX7_8 hb9
        have hX8_9 : Below w8.heap.size w8 w9 := hb9
        rw [← unhide HG6] at hC9
        obtain ⟨c9a, c9c, rfl, _⟩ := OwnC.shape hC9
        have HC9 := hide hC9
        clear hC9
        have HC10 := hide (cT hcl (OwnC.below (unhide HC8) hX8_9) (unhide HC9))
        go_wp2_with fail
        refine (unhide HC10).mono ?_
        clear HC10
        rintro e w10 ⟨rfl, hb10⟩
        have hX1_10 : Below w1.heap.size w1 w10 := bstep hX1_9 hb10
        have hX2_10 : Below w2.heap.size w2 w10 := bstep hX2_9 hb10
        have hX3_10 : Below w3.heap.size w3 w10 := bstep hX3_9 hb10
        have hX6_10 : Below w6.heap.size w6 w10 := bstep hX6_9 hb10
        have hX7_10 : Below w7.heap.size w7 w10 := bstep hX7_9 hb10
        have hX8_10 : Below w8.heap.size w8 w10 := bstep hX8_9 hb10
        go_wp2
        go_ret
        exact ⟨rfl, bstep hb1 hX1_10⟩
      · have ho : o = [] := hcd.1.resolve_left e1
        have hp : p = [] := hcd2.resolve_left e1
        subst ho
        subst hp
        have e1b : (hh != 1) = true := by simpa using e1
        have HM := hide hM
        have HN := hide hN
        have hcd5 : hh = 2 ∨ hh = 3 := hcd4.resolve_left e1
        clear hM hN hsw hcd hcd2 hcd4 hso hta htb e1
        rcases hidle with ⟨rfl, rfl, _⟩ | ⟨rfl, _⟩
        · rcases hcd5 with rfl | rfl
          · skip
            have HC2 := hide (iU (sc := sc) (by omega) (unhide HF) (unhide HR) (unhide HA) (unhide HB) (unhide HFA) (unhide HFB) (unhide HM) (Below.refl _ _))
            go_wp2_with fail
            refine (unhide HC2).mono ?_
            clear HC2
            rintro e w2 ⟨v2, rfl, hOo, hb2⟩
            have hX1_2 : Below w1.heap.size w1 w2 := hb2
            obtain ⟨oa, oc, rfl, _, _, hRo⟩ := hOo.shape
            have HRo := hide hRo
            clear hOo hRo
            have HC3 := hide (iU (sc := sc) (by omega) (unhide HF) (unhide HR) (unhide HB) (unhide HA) (unhide HFB) (unhide HFA) (unhide HN) hX1_2)
            go_wp2_with fail
            refine (unhide HC3).mono ?_
            clear HC3
            rintro e w3 ⟨v3, rfl, hOp, hb3⟩
            have hX1_3 : Below w1.heap.size w1 w3 := bstep hX1_2 hb3
            have hX2_3 : Below w2.heap.size w2 w3 := hb3
            obtain ⟨pa, pc, rfl, _, _, hRp⟩ := hOp.shape
            have HRp := hide hRp
            clear hOp hRp
            have HC4 := hide (iU (sc := sc) (by omega) (unhide HF) (unhide HR) (unhide HA) (unhide HA) (unhide HFA) (unhide HFA) (unhide HSS) hX1_3)
            go_wp2_with fail
            refine (unhide HC4).mono ?_
            clear HC4
            rintro e w4 ⟨v4, rfl, hOq, hb4⟩
            have hX1_4 : Below w1.heap.size w1 w4 := bstep hX1_3 hb4
            have hX2_4 : Below w2.heap.size w2 w4 := bstep hX2_3 hb4
            have hX3_4 : Below w3.heap.size w3 w4 := hb4
            obtain ⟨qa, qc, rfl, _, _, hRq⟩ := hOq.shape
            have HRq := hide hRq
            clear hOq hRq
            have HC5 := hide (cB (sc := qc) (tc := sc) (by omega) (unhide HF) (unhide HRq) ((unhide HR).below hX1_4))
            go_wp2_with fail
            refine (unhide HC5).mono ?_
            clear HC5
            rintro e w5 ⟨rfl, hb5⟩
            have hX1_5 : Below w1.heap.size w1 w5 := bstep hX1_4 hb5
            have hX2_5 : Below w2.heap.size w2 w5 := bstep hX2_4 hb5
            have hX3_5 : Below w3.heap.size w3 w5 := bstep hX3_4 hb5
            go_wp2
            go_ret
            exact ⟨rfl, bstep hb1 hX1_5⟩
          · skip
            have HC2 := hide (iU (sc := sc) (by omega) (unhide HF) (unhide HR) (unhide HA) (unhide HB) (unhide HFA) (unhide HFB) (unhide HM) (Below.refl _ _))
            go_wp2_with fail
            refine (unhide HC2).mono ?_
            clear HC2
            rintro e w2 ⟨v2, rfl, hOo, hb2⟩
            have hX1_2 : Below w1.heap.size w1 w2 := hb2
            obtain ⟨oa, oc, rfl, _, _, hRo⟩ := hOo.shape
            have HRo := hide hRo
            clear hOo hRo
            have HC3 := hide (iU (sc := sc) (by omega) (unhide HF) (unhide HR) (unhide HB) (unhide HA) (unhide HFB) (unhide HFA) (unhide HN) hX1_2)
            go_wp2_with fail
            refine (unhide HC3).mono ?_
            clear HC3
            rintro e w3 ⟨v3, rfl, hOp, hb3⟩
            have hX1_3 : Below w1.heap.size w1 w3 := bstep hX1_2 hb3
            have hX2_3 : Below w2.heap.size w2 w3 := hb3
            obtain ⟨pa, pc, rfl, _, _, hRp⟩ := hOp.shape
            have HRp := hide hRp
            clear hOp hRp
            have HC4 := hide (iU (sc := sc) (by omega) (unhide HF) (unhide HR) (unhide HA) (unhide HA) (unhide HFA) (unhide HFA) (unhide HSS) hX1_3)
            go_wp2_with fail
            refine (unhide HC4).mono ?_
            clear HC4
            rintro e w4 ⟨v4, rfl, hOq, hb4⟩
            have hX1_4 : Below w1.heap.size w1 w4 := bstep hX1_3 hb4
            have hX2_4 : Below w2.heap.size w2 w4 := bstep hX2_3 hb4
            have hX3_4 : Below w3.heap.size w3 w4 := hb4
            obtain ⟨qa, qc, rfl, _, _, hRq⟩ := hOq.shape
            have HRq := hide hRq
            clear hOq hRq
            have HC5 := hide (cB (sc := qc) (tc := sc) (by omega) (unhide HF) (unhide HRq) ((unhide HR).below hX1_4))
            go_wp2_with fail
            refine (unhide HC5).mono ?_
            clear HC5
            rintro e w5 ⟨rfl, hb5⟩
            have hX1_5 : Below w1.heap.size w1 w5 := bstep hX1_4 hb5
            have hX2_5 : Below w2.heap.size w2 w5 := bstep hX2_4 hb5
            have hX3_5 : Below w3.heap.size w3 w5 := bstep hX3_4 hb5
            go_wp2
            go_ret
            exact ⟨rfl, bstep hb1 hX1_5⟩
        · rcases hcd5 with rfl | rfl
          · skip
            have HC2 := hide (iU (sc := sc) (by omega) (unhide HF) (unhide HR) (unhide HA) (unhide HB) (unhide HFA) (unhide HFB) (unhide HM) (Below.refl _ _))
            go_wp2_with fail
            refine (unhide HC2).mono ?_
            clear HC2
            rintro e w2 ⟨v2, rfl, hOo, hb2⟩
            have hX1_2 : Below w1.heap.size w1 w2 := hb2
            obtain ⟨oa, oc, rfl, _, _, hRo⟩ := hOo.shape
            have HRo := hide hRo
            clear hOo hRo
            have HC3 := hide (iU (sc := sc) (by omega) (unhide HF) (unhide HR) (unhide HB) (unhide HA) (unhide HFB) (unhide HFA) (unhide HN) hX1_2)
            go_wp2_with fail
            refine (unhide HC3).mono ?_
            clear HC3
            rintro e w3 ⟨v3, rfl, hOp, hb3⟩
            have hX1_3 : Below w1.heap.size w1 w3 := bstep hX1_2 hb3
            have hX2_3 : Below w2.heap.size w2 w3 := hb3
            obtain ⟨pa, pc, rfl, _, _, hRp⟩ := hOp.shape
            have HRp := hide hRp
            clear hOp hRp
            have HC4 := hide (iU (sc := sc) (by omega) (unhide HF) (unhide HR) (unhide HA) (unhide HA) (unhide HFA) (unhide HFA) (unhide HSS) hX1_3)
            go_wp2_with fail
            refine (unhide HC4).mono ?_
            clear HC4
            rintro e w4 ⟨v4, rfl, hOq, hb4⟩
            have hX1_4 : Below w1.heap.size w1 w4 := bstep hX1_3 hb4
            have hX2_4 : Below w2.heap.size w2 w4 := bstep hX2_3 hb4
            have hX3_4 : Below w3.heap.size w3 w4 := hb4
            obtain ⟨qa, qc, rfl, _, _, hRq⟩ := hOq.shape
            have HRq := hide hRq
            clear hOq hRq
            go_wp2
            go_ret
            exact ⟨rfl, bstep hb1 hX1_4⟩
          · skip
            have HC2 := hide (iU (sc := sc) (by omega) (unhide HF) (unhide HR) (unhide HA) (unhide HB) (unhide HFA) (unhide HFB) (unhide HM) (Below.refl _ _))
            go_wp2_with fail
            refine (unhide HC2).mono ?_
            clear HC2
            rintro e w2 ⟨v2, rfl, hOo, hb2⟩
            have hX1_2 : Below w1.heap.size w1 w2 := hb2
            obtain ⟨oa, oc, rfl, _, _, hRo⟩ := hOo.shape
            have HRo := hide hRo
            clear hOo hRo
            have HC3 := hide (iU (sc := sc) (by omega) (unhide HF) (unhide HR) (unhide HB) (unhide HA) (unhide HFB) (unhide HFA) (unhide HN) hX1_2)
            go_wp2_with fail
            refine (unhide HC3).mono ?_
            clear HC3
            rintro e w3 ⟨v3, rfl, hOp, hb3⟩
            have hX1_3 : Below w1.heap.size w1 w3 := bstep hX1_2 hb3
            have hX2_3 : Below w2.heap.size w2 w3 := hb3
            obtain ⟨pa, pc, rfl, _, _, hRp⟩ := hOp.shape
            have HRp := hide hRp
            clear hOp hRp
            have HC4 := hide (iU (sc := sc) (by omega) (unhide HF) (unhide HR) (unhide HA) (unhide HA) (unhide HFA) (unhide HFA) (unhide HSS) hX1_3)
            go_wp2_with fail
            refine (unhide HC4).mono ?_
            clear HC4
            rintro e w4 ⟨v4, rfl, hOq, hb4⟩
            have hX1_4 : Below w1.heap.size w1 w4 := bstep hX1_3 hb4
            have hX2_4 : Below w2.heap.size w2 w4 := bstep hX2_3 hb4
            have hX3_4 : Below w3.heap.size w3 w4 := hb4
            obtain ⟨qa, qc, rfl, _, _, hRq⟩ := hOq.shape
            have HRq := hide hRq
            clear hOq hRq
            go_wp2
            go_ret
            exact ⟨rfl, bstep hb1 hX1_4⟩
  · have hbb : decide ((len : Int) > 1048576) = true := by simp; omega
    go_enter Try.func7, Try.ntmps7
    go_wp2
    go_ret
    exact ⟨rfl, Below.refl _ _⟩
end Go.Proofs.Ytddhjafpacgdaaa
