/- The walk of the law FnSubMost: no more is bound than must be. -/
import Derived.Test.YtddhjafpacgdaaaQUF4CB1L1LU1
namespace Go.Proofs.Ytddhjafpacgdaaa
open Go.RowKit
set_option linter.unusedVariables false
set_option linter.unusedSimpArgs false

set_option maxRecDepth 100000 in
set_option maxHeartbeats 4000000 in
theorem FnSubMost_walk (ao : Option Addr) (len cap : Nat) (z : Nat → Int) (w : World) (h : Bin w ao len cap z) :
    Calls Try.prog 6 #[.slice ao len cap] w fun e w' => e = .returned (.bool true) ∧ Below w.heap.size w w' := by
  have hmx : len ≤ 9223372036854775807 := by have := h.1; have := h.2.1; unfold maxLen at this; omega
  by_cases hbig : len ≤ 1048576
  · go_enter Try.func6, Try.ntmps6
    go_wp2_with fail
    refine (drawSubUnify_any ao len cap z _ h).mono ?_
    rintro e w1 ⟨v, s, x, a, y, b, rfl, hO1, hF, hA1, hla, hDa, hB1, hlb, hDb, hb1⟩
    have HF := hide hF
    have HFA := hide (dc_fit hDa).1
    have HFB := hide (dc_fit hDb).1
    obtain ⟨sa, sc, rfl, _, _, hR1⟩ := hO1.shape
    obtain ⟨xa, xc, rfl, _⟩ := hA1.shape
    obtain ⟨ya, yc, rfl, _⟩ := hB1.shape
    have HR := hide hR1
    have HA := hide hA1
    have HB := hide hB1
    clear hF hDa hDb hO1 hR1 hA1 hB1 h
    obtain ⟨o, hh, hM⟩ := um_all s a b
    have HFO := hide (um_few (unhide HF) hla hlb hM)
    by_cases e1 : hh = 1
    · subst e1
      obtain ⟨m, h0, hM0⟩ := um_all [] a b
      have HFM := hide (um_few (FewK.nil 0) hla hlb hM0)
      obtain ⟨rfl, p, q, f1, f2, f3⟩ := um_most hM hM0
      have hpl : p.length ≤ 41 := by have := (fullB_some f1).2.1; omega
      have hql : q.length ≤ 41 := by have := (fullB_some f2).2.1; omega
      have HFP := hide (fullB_some f1).2.2
      have HF1 := hide f1
      have HF2 := hide f2
      have HF3 := hide f3
      have HM := hide hM
      have HM0 := hide hM0
      clear hM hM0 f1 f2 f3
      have HC2 := hide (iU (sc := sc) (by omega) (unhide HF) (unhide HR) (unhide HA) (unhide HB) (unhide HFA) (unhide HFB) (unhide HM) (Below.refl _ _))
      go_wp2_with fail
      refine (unhide HC2).mono ?_
      clear HC2
      rintro e w2 ⟨v2, rfl, hOo, hb2⟩
      have hX1_2 : Below w1.heap.size w1 w2 := hb2
      obtain ⟨oa, oc, rfl, _, _, hRo⟩ := hOo.shape
      have HRo := hide hRo
      clear hOo hRo
      have HC3 := hide (iU0 (sa := some ⟨w2.heap.size, 0, none⟩) (sc := 0) (.cells #[] 51) (unhide HA) (unhide HB) (unhide HFA) (unhide HFB) (unhide HM0) hX1_2)
      go_wp2_with fail
      refine (unhide HC3).mono ?_
      clear HC3
      rintro e w3 ⟨v3, rfl, hOm, hb3⟩
      have hX1_3 : Below w1.heap.size w1 w3 := bstep (bstep hX1_2 (cell_below _ _)) hb3
      have hX2_3 : Below w2.heap.size w2 w3 := bstep (cell_below _ _) hb3
      obtain ⟨ma, mc, rfl, _, _, hRm⟩ := hOm.shape
      have HRm := hide hRm
      clear hOm hRm
      have HC4 := hide (iF1 (k := 2) (sc := mc) (by omega) (unhide HFM) (unhide HRm) (unhide HA) (unhide HFA) hX1_3 (unhide HF1))
      go_wp2_with fail
      refine (unhide HC4).mono ?_
      clear HC4
      rintro e w4 ⟨pa, pc, rfl, hP, hb4⟩
      have hX1_4 : Below w1.heap.size w1 w4 := bstep hX1_3 hb4
      have hX2_4 : Below w2.heap.size w2 w4 := bstep hX2_3 hb4
      have hX3_4 : Below w3.heap.size w3 w4 := hb4
      have HP := hide hP
      clear hP
      have HC5 := hide (iF1 (k := 12) (sc := oc) (by omega) (unhide HFO) ((unhide HRo).below hX2_4) (unhide HP) (unhide HFP) (Below.refl _ w4) (unhide HF2))
      go_wp2_with fail
      refine (unhide HC5).mono ?_
      clear HC5
      rintro e w5 ⟨qa, qc, rfl, hQ, hb5⟩
      have hX1_5 : Below w1.heap.size w1 w5 := bstep hX1_4 hb5
      have hX2_5 : Below w2.heap.size w2 w5 := bstep hX2_4 hb5
      have hX3_5 : Below w3.heap.size w3 w5 := bstep hX3_4 hb5
      have hX4_5 : Below w4.heap.size w4 w5 := hb5
      have HQ := hide hQ
      clear hQ
      have HC6 := hide (iF1 (k := 12) (sc := oc) (by omega) (unhide HFO) ((unhide HRo).below hX2_5) (unhide HA) (unhide HFA) hX1_5 (unhide HF3))
      go_wp2_with fail
      refine (unhide HC6).mono ?_
      clear HC6
      rintro e w6 ⟨ra, rc, rfl, hS, hb6⟩
      have hX1_6 : Below w1.heap.size w1 w6 := bstep hX1_5 hb6
      have hX2_6 : Below w2.heap.size w2 w6 := bstep hX2_5 hb6
      have hX3_6 : Below w3.heap.size w3 w6 := bstep hX3_5 hb6
      have hX4_6 : Below w4.heap.size w4 w6 := bstep hX4_5 hb6
      have hX5_6 : Below w5.heap.size w5 w6 := hb6
      have HS := hide hS
      clear hS
      have HC7 := hide (cT hql (OwnC.below (unhide HQ) hX5_6) (unhide HS))
      go_wp2_with fail
      refine (unhide HC7).mono ?_
      clear HC7
      rintro e w7 ⟨rfl, hb7⟩
      have hX1_7 : Below w1.heap.size w1 w7 := bstep hX1_6 hb7
      have hX2_7 : Below w2.heap.size w2 w7 := bstep hX2_6 hb7
      have hX3_7 : Below w3.heap.size w3 w7 := bstep hX3_6 hb7
      have hX4_7 : Below w4.heap.size w4 w7 := bstep hX4_6 hb7
      have hX5_7 : Below w5.heap.size w5 w7 := bstep hX5_6 hb7
      go_wp2
      go_ret
      exact ⟨rfl, bstep hb1 hX1_7⟩
    · have e1b : (hh != 1) = true := by simpa using e1
      have HM := hide hM
      clear hM e1
      have HC2 := hide (iU (sc := sc) (by omega) (unhide HF) (unhide HR) (unhide HA) (unhide HB) (unhide HFA) (unhide HFB) (unhide HM) (Below.refl _ _))
      go_wp2_with fail
      refine (unhide HC2).mono ?_
      clear HC2
      rintro e w2 ⟨v2, rfl, _, hb2⟩
      have hX1_2 : Below w1.heap.size w1 w2 := hb2
      have HC3 := hide (caOk_any w2)
      go_wp2_with fail
      refine (unhide HC3).mono ?_
      clear HC3
      rintro e w3 ⟨rfl, hb3⟩
      have hX1_3 : Below w1.heap.size w1 w3 := bstep hX1_2 hb3
      go_wp2
      go_ret
      exact ⟨rfl, bstep hb1 hX1_3⟩
  · have hbb : decide ((len : Int) > 1048576) = true := by simp; omega
    go_enter Try.func6, Try.ntmps6
    go_wp2
    go_ret
    exact ⟨rfl, Below.refl _ _⟩
end Go.Proofs.Ytddhjafpacgdaaa
