/- The walk of the law FnSubAgain: what is the same stays the same. -/
import Derived.Test.YtddhjafpacgdaaaQUF4CB1L1LU1
namespace Go.Proofs.Ytddhjafpacgdaaa
open Go.RowKit
set_option linter.unusedVariables false
set_option linter.unusedSimpArgs false

set_option maxRecDepth 100000 in
set_option maxHeartbeats 4000000 in
theorem FnSubAgain_walk (ao : Option Addr) (len cap : Nat) (z : Nat → Int) (w : World) (h : Bin w ao len cap z) :
    Calls Try.prog 14 #[.slice ao len cap] w fun e w' => e = .returned (.bool true) ∧ Below w.heap.size w w' := by
  have hmx : len ≤ 9223372036854775807 := by have := h.1; have := h.2.1; unfold maxLen at this; omega
  by_cases hbig : len ≤ 1048576
  · go_enter Try.func14, Try.ntmps14
    go_wp2_with fail
    refine (drawSubUnify_any ao len cap z _ h).mono ?_
    rintro e w1 ⟨v, s, x, a, y, b, rfl, hO1, hF, hA1, hla, hDa, hB1, hlb, hDb, hb1⟩
    have HF := hide hF
    have HFA := hide (dc_fit hDa).1
    have HFB := hide (dc_fit hDb).1
    obtain ⟨sa, sc, rfl, _, _, hR1⟩ := hO1.shape
    obtain ⟨xa, xc, rfl, _⟩ := hA1.shape
    obtain ⟨ya, yc, rfl, _⟩ := hB1.shape
    have HR := hide hR1
    have HA := hide hA1
    have HB := hide hB1
    clear hF hDa hDb hO1 hR1 hA1 hB1 h
    obtain ⟨o, hh, hM⟩ := um_all s a b
    have HFO := hide (um_few (unhide HF) hla hlb hM)
    have hcd := (um_codes hM).1
    by_cases e1 : hh = 1
    · subst e1
      obtain ⟨y, h2, hN⟩ := um_all o b a
      have HFY := hide (um_few (unhide HFO) hlb hla hN)
      obtain ⟨rfl, rfl⟩ := um_again hM hN
      have HM := hide hM
      have HN := hide hN
      clear hM hN hcd
      have HC2 := hide (iU (sc := sc) (by omega) (unhide HF) (unhide HR) (unhide HA) (unhide HB) (unhide HFA) (unhide HFB) (unhide HM) (Below.refl _ _))
      go_wp2_with fail
      refine (unhide HC2).mono ?_
      clear HC2
      rintro e w2 ⟨v2, rfl, hOo, hb2⟩
      have hX1_2 : Below w1.heap.size w1 w2 := hb2
      obtain ⟨oa, oc, rfl, _, _, hRo⟩ := hOo.shape
      have HRo := hide hRo
      clear hOo hRo
      have HC3 := hide (iU (k := 12) (sc := oc) (by omega) (unhide HFO) (unhide HRo) (OwnC.below (unhide HB) hX1_2) (OwnC.below (unhide HA) hX1_2) (unhide HFB) (unhide HFA) (unhide HN) (Below.refl _ w2))
      go_wp2_with fail
      refine (unhide HC3).mono ?_
      clear HC3
      rintro e w3 ⟨v3, rfl, hOp, hb3⟩
      have hX1_3 : Below w1.heap.size w1 w3 := bstep hX1_2 hb3
      have hX2_3 : Below w2.heap.size w2 w3 := hb3
      obtain ⟨pa, pc, rfl, _, _, hRp⟩ := hOp.shape
      have HRp := hide hRp
      clear hOp hRp
      have HC4 := hide (cB (k := 12) (sc := pc) (tc := oc) (by omega) (unhide HFO) (unhide HRp) ((unhide HRo).below hX2_3))
      go_wp2_with fail
      refine (unhide HC4).mono ?_
      clear HC4
      rintro e w4 ⟨rfl, hb4⟩
      have hX1_4 : Below w1.heap.size w1 w4 := bstep hX1_3 hb4
      have hX2_4 : Below w2.heap.size w2 w4 := bstep hX2_3 hb4
      go_wp2
      go_ret
      exact ⟨rfl, bstep hb1 hX1_4⟩
    · have ho : o = [] := hcd.resolve_left e1
      subst ho
      have e1b : (hh != 1) = true := by simpa using e1
      have HM := hide hM
      clear hM hcd e1
      have HC2 := hide (iU (sc := sc) (by omega) (unhide HF) (unhide HR) (unhide HA) (unhide HB) (unhide HFA) (unhide HFB) (unhide HM) (Below.refl _ _))
      go_wp2_with fail
      refine (unhide HC2).mono ?_
      clear HC2
      rintro e w2 ⟨v2, rfl, hOo, hb2⟩
      have hX1_2 : Below w1.heap.size w1 w2 := hb2
      obtain ⟨oa, oc, rfl, _, _, hRo⟩ := hOo.shape
      have HRo := hide hRo
      clear hOo hRo
      have HC3 := hide (caOk_any w2)
      go_wp2_with fail
      refine (unhide HC3).mono ?_
      clear HC3
      rintro e w3 ⟨rfl, hb3⟩
      have hX1_3 : Below w1.heap.size w1 w3 := bstep hX1_2 hb3
      go_wp2
      go_ret
      exact ⟨rfl, bstep hb1 hX1_3⟩
  · have hbb : decide ((len : Int) > 1048576) = true := by simp; omega
    go_enter Try.func14, Try.ntmps14
    go_wp2
    go_ret
    exact ⟨rfl, Below.refl _ _⟩
end Go.Proofs.Ytddhjafpacgdaaa
