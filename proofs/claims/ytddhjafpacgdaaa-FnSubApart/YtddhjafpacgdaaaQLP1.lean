/- The walk of the law FnSubApart: what is apart stays apart. -/
import Derived.Test.YtddhjafpacgdaaaQUF4CB1L1LU1
namespace Go.Proofs.Ytddhjafpacgdaaa
open Go.RowKit
set_option linter.unusedVariables false
set_option linter.unusedSimpArgs false

set_option maxRecDepth 100000 in
set_option maxHeartbeats 4000000 in
theorem FnSubApart_walk (ao : Option Addr) (len cap : Nat) (z : Nat → Int) (w : World) (h : Bin w ao len cap z) :
    Calls Try.prog 8 #[.slice ao len cap] w fun e w' => e = .returned (.bool true) ∧ Below w.heap.size w w' := by
  have hmx : len ≤ 9223372036854775807 := by have := h.1; have := h.2.1; unfold maxLen at this; omega
  by_cases hbig : len ≤ 1048576
  · go_enter Try.func8, Try.ntmps8
    go_wp2_with fail
    refine (drawSubUnify_any ao len cap z _ h).mono ?_
    rintro e w1 ⟨v, s, x, a, y, b, rfl, hO1, hF, hA1, hla, hDa, hB1, hlb, hDb, hb1⟩
    have HF := hide hF
    have HFA := hide (dc_fit hDa).1
    have HFB := hide (dc_fit hDb).1
    obtain ⟨sa, sc, rfl, _, _, hR1⟩ := hO1.shape
    obtain ⟨xa, xc, rfl, _⟩ := hA1.shape
    obtain ⟨ya, yc, rfl, _⟩ := hB1.shape
    have HR := hide hR1
    have HA := hide hA1
    have HB := hide hB1
    clear hF hDa hDb hO1 hR1 hA1 hB1 h
    obtain ⟨m, h0, hM0⟩ := um_all [] a b
    obtain ⟨o, hh, hM⟩ := um_all s a b
    have hap : h0 = 2 → hh ≠ 1 := fun e => by subst e; exact um_apart hM0 hM
    have hhb : (hh != hh) = false := by simp
    have HM := hide hM
    have HM0 := hide hM0
    clear hM hM0
    by_cases e0 : h0 = 2
    · have e1b : (hh != 1) = true := by simpa using hap e0
      have e0b : (h0 != 2) = false := by simp [e0]
      clear hap e0
      have HC2 := hide (iU0 (sa := some ⟨w1.heap.size, 0, none⟩) (sc := 0) (.cells #[] 51) (unhide HA) (unhide HB) (unhide HFA) (unhide HFB) (unhide HM0) (Below.refl _ _))
      go_wp2_with fail
      refine (unhide HC2).mono ?_
      clear HC2
      rintro e w2 ⟨v2, rfl, _, hb2⟩
      have hX1_2 : Below w1.heap.size w1 w2 := bstep (cell_below _ _) hb2
      have HC3 := hide (iU (sc := sc) (by omega) (unhide HF) (unhide HR) (unhide HA) (unhide HB) (unhide HFA) (unhide HFB) (unhide HM) hX1_2)
      go_wp2_with fail
      refine (unhide HC3).mono ?_
      clear HC3
      rintro e w3 ⟨v3, rfl, _, hb3⟩
      have hX1_3 : Below w1.heap.size w1 w3 := bstep hX1_2 hb3
      have HC4 := hide (sU (sc := sc) (by omega) (unhide HF) (unhide HR) (unhide HA) (unhide HB) hla hlb (unhide HFA) (unhide HFB) (unhide HM) hX1_3)
      go_wp2_with fail
      refine (unhide HC4).mono ?_
      clear HC4
      rintro e w4 ⟨v4, rfl, _, hb4⟩
      have hX1_4 : Below w1.heap.size w1 w4 := bstep hX1_3 hb4
      have HC5 := hide (caOk_any w4)
      go_wp2_with fail
      refine (unhide HC5).mono ?_
      clear HC5
      rintro e w5 ⟨rfl, hb5⟩
      have hX1_5 : Below w1.heap.size w1 w5 := bstep hX1_4 hb5
      go_wp2
      go_ret
      exact ⟨rfl, bstep hb1 hX1_5⟩
    · have e0b : (h0 != 2) = true := by simpa using e0
      clear hap e0
      have HC2 := hide (iU0 (sa := some ⟨w1.heap.size, 0, none⟩) (sc := 0) (.cells #[] 51) (unhide HA) (unhide HB) (unhide HFA) (unhide HFB) (unhide HM0) (Below.refl _ _))
      go_wp2_with fail
      refine (unhide HC2).mono ?_
      clear HC2
      rintro e w2 ⟨v2, rfl, _, hb2⟩
      have hX1_2 : Below w1.heap.size w1 w2 := bstep (cell_below _ _) hb2
      have HC3 := hide (iU (sc := sc) (by omega) (unhide HF) (unhide HR) (unhide HA) (unhide HB) (unhide HFA) (unhide HFB) (unhide HM) hX1_2)
      go_wp2_with fail
      refine (unhide HC3).mono ?_
      clear HC3
      rintro e w3 ⟨v3, rfl, _, hb3⟩
      have hX1_3 : Below w1.heap.size w1 w3 := bstep hX1_2 hb3
      have HC4 := hide (sU (sc := sc) (by omega) (unhide HF) (unhide HR) (unhide HA) (unhide HB) hla hlb (unhide HFA) (unhide HFB) (unhide HM) hX1_3)
      go_wp2_with fail
      refine (unhide HC4).mono ?_
      clear HC4
      rintro e w4 ⟨v4, rfl, _, hb4⟩
      have hX1_4 : Below w1.heap.size w1 w4 := bstep hX1_3 hb4
      go_wp2
      go_ret
      exact ⟨rfl, bstep hb1 hX1_4⟩
  · have hbb : decide ((len : Int) > 1048576) = true := by simp; omega
    go_enter Try.func8, Try.ntmps8
    go_wp2
    go_ret
    exact ⟨rfl, Below.refl _ _⟩
end Go.Proofs.Ytddhjafpacgdaaa
