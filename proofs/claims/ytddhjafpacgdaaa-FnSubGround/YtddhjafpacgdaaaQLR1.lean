/- The walk of the law FnSubGround: what has no variables is what it is. -/
import Derived.Test.YtddhjafpacgdaaaQUF4CB1L1LU1
namespace Go.Proofs.Ytddhjafpacgdaaa
open Go.RowKit
set_option linter.unusedVariables false
set_option linter.unusedSimpArgs false

set_option maxRecDepth 100000 in
set_option maxHeartbeats 4000000 in
theorem FnSubGround_walk (ao : Option Addr) (len cap : Nat) (z : Nat → Int) (w : World) (h : Bin w ao len cap z) :
    Calls Try.prog 17 #[.slice ao len cap] w fun e w' => e = .returned (.bool true) ∧ Below w.heap.size w w' := by
  have hmx : len ≤ 9223372036854775807 := by have := h.1; have := h.2.1; unfold maxLen at this; omega
  by_cases hbig : len ≤ 1048576
  · go_enter Try.func17, Try.ntmps17
    go_wp2_with fail
    refine (drawSubUnify_any ao len cap z _ h).mono ?_
    rintro e w1 ⟨v, s, x, a, y, b, rfl, hO1, hF, hA1, hla, hDa, hB1, hlb, hDb, hb1⟩
    have HF := hide hF
    have HFA := hide (dc_fit hDa).1
    have HFB := hide (dc_fit hDb).1
    obtain ⟨sa, sc, rfl, _, _, hR1⟩ := hO1.shape
    obtain ⟨xa, xc, rfl, _⟩ := hA1.shape
    obtain ⟨ya, yc, rfl, _⟩ := hB1.shape
    have HR := hide hR1
    have HA := hide hA1
    have HB := hide hB1
    clear hF hDa hDb hO1 hR1 hA1 hB1 h
    obtain ⟨o, hh, hM⟩ := um_all [] a b
    have HFO := hide (um_few (FewK.nil 0) hla hlb hM)
    have hhb : (hh != hh) = false := by simp
    have hgr := um_ground hM
    have HM := hide hM
    clear hM
    cases hta : trm a with
    | false =>
      have HTA := hide hta
      clear hgr hta
      have HC2 := hide (iU0 (sa := some ⟨w1.heap.size, 0, none⟩) (sc := 0) (.cells #[] 51) (unhide HA) (unhide HB) (unhide HFA) (unhide HFB) (unhide HM) (Below.refl _ _))
      go_wp2_with fail
      refine (unhide HC2).mono ?_
      clear HC2
      rintro e w2 ⟨v2, rfl, hOo, hb2⟩
      have hX1_2 : Below w1.heap.size w1 w2 := bstep (cell_below _ _) hb2
      obtain ⟨oa, oc, rfl, _, _, hRo⟩ := hOo.shape
      have HRo := hide hRo
      clear hOo hRo
      have HC3 := hide (sU0 (sa := some ⟨w2.heap.size, 0, none⟩) (sc := 0) (.cells #[] 51) (unhide HA) (unhide HB) hla hlb (unhide HFA) (unhide HFB) (unhide HM) hX1_2)
      go_wp2_with fail
      refine (unhide HC3).mono ?_
      clear HC3
      rintro e w3 ⟨v3, rfl, hOp, hb3⟩
      have hX1_3 : Below w1.heap.size w1 w3 := bstep (bstep hX1_2 (cell_below _ _)) hb3
      have hX2_3 : Below w2.heap.size w2 w3 := bstep (cell_below _ _) hb3
      obtain ⟨pa, pc, rfl, _, _, hRp⟩ := hOp.shape
      have HRp := hide hRp
      clear hOp hRp
      have HC4 := hide (cB (k := 2) (sc := oc) (tc := pc) (by omega) (unhide HFO) ((unhide HRo).below hX2_3) (unhide HRp))
      go_wp2_with fail
      refine (unhide HC4).mono ?_
      clear HC4
      rintro e w4 ⟨rfl, hb4⟩
      have hX1_4 : Below w1.heap.size w1 w4 := bstep hX1_3 hb4
      have hX2_4 : Below w2.heap.size w2 w4 := bstep hX2_3 hb4
      have HC5 := hide (sT hla (unhide HA) (unhide HFA) hX1_4 (unhide HTA))
      go_wp2_with fail
      refine (unhide HC5).mono ?_
      clear HC5
      rintro e w5 ⟨rfl, hb5⟩
      have hX1_5 : Below w1.heap.size w1 w5 := bstep hX1_4 hb5
      have hX2_5 : Below w2.heap.size w2 w5 := bstep hX2_4 hb5
      have HC6 := hide (caOk_any w5)
      go_wp2_with fail
      refine (unhide HC6).mono ?_
      clear HC6
      rintro e w6 ⟨rfl, hb6⟩
      have hX1_6 : Below w1.heap.size w1 w6 := bstep hX1_5 hb6
      have hX2_6 : Below w2.heap.size w2 w6 := bstep hX2_5 hb6
      go_wp2
      go_ret
      exact ⟨rfl, bstep hb1 hX1_6⟩
    | true =>
      cases htb : trm b with
      | false =>
        have HTA := hide hta
        have HTB := hide htb
        clear hgr hta htb
        have HC2 := hide (iU0 (sa := some ⟨w1.heap.size, 0, none⟩) (sc := 0) (.cells #[] 51) (unhide HA) (unhide HB) (unhide HFA) (unhide HFB) (unhide HM) (Below.refl _ _))
        go_wp2_with fail
        refine (unhide HC2).mono ?_
        clear HC2
        rintro e w2 ⟨v2, rfl, hOo, hb2⟩
        have hX1_2 : Below w1.heap.size w1 w2 := bstep (cell_below _ _) hb2
        obtain ⟨oa, oc, rfl, _, _, hRo⟩ := hOo.shape
        have HRo := hide hRo
        clear hOo hRo
        have HC3 := hide (sU0 (sa := some ⟨w2.heap.size, 0, none⟩) (sc := 0) (.cells #[] 51) (unhide HA) (unhide HB) hla hlb (unhide HFA) (unhide HFB) (unhide HM) hX1_2)
        go_wp2_with fail
        refine (unhide HC3).mono ?_
        clear HC3
        rintro e w3 ⟨v3, rfl, hOp, hb3⟩
        have hX1_3 : Below w1.heap.size w1 w3 := bstep (bstep hX1_2 (cell_below _ _)) hb3
        have hX2_3 : Below w2.heap.size w2 w3 := bstep (cell_below _ _) hb3
        obtain ⟨pa, pc, rfl, _, _, hRp⟩ := hOp.shape
        have HRp := hide hRp
        clear hOp hRp
        have HC4 := hide (cB (k := 2) (sc := oc) (tc := pc) (by omega) (unhide HFO) ((unhide HRo).below hX2_3) (unhide HRp))
        go_wp2_with fail
        refine (unhide HC4).mono ?_
        clear HC4
        rintro e w4 ⟨rfl, hb4⟩
        have hX1_4 : Below w1.heap.size w1 w4 := bstep hX1_3 hb4
        have hX2_4 : Below w2.heap.size w2 w4 := bstep hX2_3 hb4
        have HC5 := hide (sT hla (unhide HA) (unhide HFA) hX1_4 (unhide HTA))
        go_wp2_with fail
        refine (unhide HC5).mono ?_
        clear HC5
        rintro e w5 ⟨rfl, hb5⟩
        have hX1_5 : Below w1.heap.size w1 w5 := bstep hX1_4 hb5
        have hX2_5 : Below w2.heap.size w2 w5 := bstep hX2_4 hb5
        have HC6 := hide (sT hlb (unhide HB) (unhide HFB) hX1_5 (unhide HTB))
        go_wp2_with fail
        refine (unhide HC6).mono ?_
        clear HC6
        rintro e w6 ⟨rfl, hb6⟩
        have hX1_6 : Below w1.heap.size w1 w6 := bstep hX1_5 hb6
        have hX2_6 : Below w2.heap.size w2 w6 := bstep hX2_5 hb6
        have HC7 := hide (caOk_any w6)
        go_wp2_with fail
        refine (unhide HC7).mono ?_
        clear HC7
        rintro e w7 ⟨rfl, hb7⟩
        have hX1_7 : Below w1.heap.size w1 w7 := bstep hX1_6 hb7
        have hX2_7 : Below w2.heap.size w2 w7 := bstep hX2_6 hb7
        go_wp2
        go_ret
        exact ⟨rfl, bstep hb1 hX1_7⟩
      | true =>
        have HTA := hide hta
        have HTB := hide htb
        have hvar : ∀ (u : List C), freeOf u = [] → ∀ c ∈ u, c.k ≠ 1 := fun u hu c hc hk => by
          have := (mem_freeV (t := u) (v := c.n)).2 ⟨c, hc, hk, rfl⟩
          rw [hu] at this
          simp at this
        have hgr2 := hgr hta htb
        clear hgr hta htb
        by_cases hb0 : (freeOf b).length = 0
        · have hbv := hvar b (List.length_eq_zero_iff.1 hb0)
          obtain ⟨g1, g2, g3⟩ := hgr2 hbv
          clear hgr2 hbv
          by_cases ha0 : (freeOf a).length = 0
          · obtain ⟨g4, g5⟩ := g1 (hvar a (List.length_eq_zero_iff.1 ha0))
            subst g5
            clear g1 g2 g3 hvar
            by_cases hab : a = b
            · have e1 := g4.2 hab
              subst e1
              have HS : Hid (sameS a b = true) := sameS_yes hab
              clear g4 hab
              have HC2 := hide (iU0 (sa := some ⟨w1.heap.size, 0, none⟩) (sc := 0) (.cells #[] 51) (unhide HA) (unhide HB) (unhide HFA) (unhide HFB) (unhide HM) (Below.refl _ _))
              go_wp2_with fail
              refine (unhide HC2).mono ?_
              clear HC2
              rintro e w2 ⟨v2, rfl, hOo, hb2⟩
              have hX1_2 : Below w1.heap.size w1 w2 := bstep (cell_below _ _) hb2
              obtain ⟨oa, oc, rfl, _, _, hRo⟩ := hOo.shape
              have HRo := hide hRo
              clear hOo hRo
              have HC3 := hide (sU0 (sa := some ⟨w2.heap.size, 0, none⟩) (sc := 0) (.cells #[] 51) (unhide HA) (unhide HB) hla hlb (unhide HFA) (unhide HFB) (unhide HM) hX1_2)
              go_wp2_with fail
              refine (unhide HC3).mono ?_
              clear HC3
              rintro e w3 ⟨v3, rfl, hOp, hb3⟩
              have hX1_3 : Below w1.heap.size w1 w3 := bstep (bstep hX1_2 (cell_below _ _)) hb3
              have hX2_3 : Below w2.heap.size w2 w3 := bstep (cell_below _ _) hb3
              obtain ⟨pa, pc, rfl, _, _, hRp⟩ := hOp.shape
              have HRp := hide hRp
              clear hOp hRp
              have HC4 := hide (cB (k := 2) (sc := oc) (tc := pc) (by omega) (unhide HFO) ((unhide HRo).below hX2_3) (unhide HRp))
              go_wp2_with fail
              refine (unhide HC4).mono ?_
              clear HC4
              rintro e w4 ⟨rfl, hb4⟩
              have hX1_4 : Below w1.heap.size w1 w4 := bstep hX1_3 hb4
              have hX2_4 : Below w2.heap.size w2 w4 := bstep hX2_3 hb4
              have HC5 := hide (sT hla (unhide HA) (unhide HFA) hX1_4 (unhide HTA))
              go_wp2_with fail
              refine (unhide HC5).mono ?_
              clear HC5
              rintro e w5 ⟨rfl, hb5⟩
              have hX1_5 : Below w1.heap.size w1 w5 := bstep hX1_4 hb5
              have hX2_5 : Below w2.heap.size w2 w5 := bstep hX2_4 hb5
              have HC6 := hide (sT hlb (unhide HB) (unhide HFB) hX1_5 (unhide HTB))
              go_wp2_with fail
              refine (unhide HC6).mono ?_
              clear HC6
              rintro e w6 ⟨rfl, hb6⟩
              have hX1_6 : Below w1.heap.size w1 w6 := bstep hX1_5 hb6
              have hX2_6 : Below w2.heap.size w2 w6 := bstep hX2_5 hb6
              have HC7 := hide (specTrmFree_any ya yc b w6 (by omega) (OwnC.row (OwnC.below (unhide HB) hX1_6)))
              go_wp2_with fail
              refine (unhide HC7).mono ?_
              clear HC7
              rintro e w7 ⟨v7, rfl, hI7, hb7⟩
              have hX1_7 : Below w1.heap.size w1 w7 := bstep hX1_6 hb7
              have hX2_7 : Below w2.heap.size w2 w7 := bstep hX2_6 hb7
              obtain ⟨f7a, f7c, rfl, _⟩ := hI7.shape
              clear hI7
              rw [hb0]
              have HC8 := hide (specTrmFree_any xa xc a w7 (by omega) (OwnC.row (OwnC.below (unhide HA) hX1_7)))
              go_wp2_with fail
              refine (unhide HC8).mono ?_
              clear HC8
              rintro e w8 ⟨v8, rfl, hI8, hb8⟩
              have hX1_8 : Below w1.heap.size w1 w8 := bstep hX1_7 hb8
              have hX2_8 : Below w2.heap.size w2 w8 := bstep hX2_7 hb8
              obtain ⟨f8a, f8c, rfl, _⟩ := hI8.shape
              clear hI8
              rw [ha0]
              have HC9 := hide (caTerm_any xa ya xc yc a b w8 (len41 hla) (OwnC.row (OwnC.below (unhide HA) hX1_8)) (OwnC.row (OwnC.below (unhide HB) hX1_8)))
              go_wp2_with fail
              refine (unhide HC9).mono ?_
              clear HC9
              rintro e w9 ⟨rfl, hb9⟩
              have hX1_9 : Below w1.heap.size w1 w9 := bstep hX1_8 hb9
              have hX2_9 : Below w2.heap.size w2 w9 := bstep hX2_8 hb9
              rw [unhide HS]
              go_wp2
              go_ret
              exact ⟨rfl, bstep hb1 hX1_9⟩
            · have e1b : (hh == 1) = false := by simpa using (fun e => hab (g4.1 e))
              have HS : Hid (sameS a b = false) := sameS_no hab
              clear g4 hab
              have HC2 := hide (iU0 (sa := some ⟨w1.heap.size, 0, none⟩) (sc := 0) (.cells #[] 51) (unhide HA) (unhide HB) (unhide HFA) (unhide HFB) (unhide HM) (Below.refl _ _))
              go_wp2_with fail
              refine (unhide HC2).mono ?_
              clear HC2
              rintro e w2 ⟨v2, rfl, hOo, hb2⟩
              have hX1_2 : Below w1.heap.size w1 w2 := bstep (cell_below _ _) hb2
              obtain ⟨oa, oc, rfl, _, _, hRo⟩ := hOo.shape
              have HRo := hide hRo
              clear hOo hRo
              have HC3 := hide (sU0 (sa := some ⟨w2.heap.size, 0, none⟩) (sc := 0) (.cells #[] 51) (unhide HA) (unhide HB) hla hlb (unhide HFA) (unhide HFB) (unhide HM) hX1_2)
              go_wp2_with fail
              refine (unhide HC3).mono ?_
              clear HC3
              rintro e w3 ⟨v3, rfl, hOp, hb3⟩
              have hX1_3 : Below w1.heap.size w1 w3 := bstep (bstep hX1_2 (cell_below _ _)) hb3
              have hX2_3 : Below w2.heap.size w2 w3 := bstep (cell_below _ _) hb3
              obtain ⟨pa, pc, rfl, _, _, hRp⟩ := hOp.shape
              have HRp := hide hRp
              clear hOp hRp
              have HC4 := hide (cB (k := 2) (sc := oc) (tc := pc) (by omega) (unhide HFO) ((unhide HRo).below hX2_3) (unhide HRp))
              go_wp2_with fail
              refine (unhide HC4).mono ?_
              clear HC4
              rintro e w4 ⟨rfl, hb4⟩
              have hX1_4 : Below w1.heap.size w1 w4 := bstep hX1_3 hb4
              have hX2_4 : Below w2.heap.size w2 w4 := bstep hX2_3 hb4
              have HC5 := hide (sT hla (unhide HA) (unhide HFA) hX1_4 (unhide HTA))
              go_wp2_with fail
              refine (unhide HC5).mono ?_
              clear HC5
              rintro e w5 ⟨rfl, hb5⟩
              have hX1_5 : Below w1.heap.size w1 w5 := bstep hX1_4 hb5
              have hX2_5 : Below w2.heap.size w2 w5 := bstep hX2_4 hb5
              have HC6 := hide (sT hlb (unhide HB) (unhide HFB) hX1_5 (unhide HTB))
              go_wp2_with fail
              refine (unhide HC6).mono ?_
              clear HC6
              rintro e w6 ⟨rfl, hb6⟩
              have hX1_6 : Below w1.heap.size w1 w6 := bstep hX1_5 hb6
              have hX2_6 : Below w2.heap.size w2 w6 := bstep hX2_5 hb6
              have HC7 := hide (specTrmFree_any ya yc b w6 (by omega) (OwnC.row (OwnC.below (unhide HB) hX1_6)))
              go_wp2_with fail
              refine (unhide HC7).mono ?_
              clear HC7
              rintro e w7 ⟨v7, rfl, hI7, hb7⟩
              have hX1_7 : Below w1.heap.size w1 w7 := bstep hX1_6 hb7
              have hX2_7 : Below w2.heap.size w2 w7 := bstep hX2_6 hb7
              obtain ⟨f7a, f7c, rfl, _⟩ := hI7.shape
              clear hI7
              rw [hb0]
              have HC8 := hide (specTrmFree_any xa xc a w7 (by omega) (OwnC.row (OwnC.below (unhide HA) hX1_7)))
              go_wp2_with fail
              refine (unhide HC8).mono ?_
              clear HC8
              rintro e w8 ⟨v8, rfl, hI8, hb8⟩
              have hX1_8 : Below w1.heap.size w1 w8 := bstep hX1_7 hb8
              have hX2_8 : Below w2.heap.size w2 w8 := bstep hX2_7 hb8
              obtain ⟨f8a, f8c, rfl, _⟩ := hI8.shape
              clear hI8
              rw [ha0]
              have HC9 := hide (caTerm_any xa ya xc yc a b w8 (len41 hla) (OwnC.row (OwnC.below (unhide HA) hX1_8)) (OwnC.row (OwnC.below (unhide HB) hX1_8)))
              go_wp2_with fail
              refine (unhide HC9).mono ?_
              clear HC9
              rintro e w9 ⟨rfl, hb9⟩
              have hX1_9 : Below w1.heap.size w1 w9 := bstep hX1_8 hb9
              have hX2_9 : Below w2.heap.size w2 w9 := bstep hX2_8 hb9
              rw [unhide HS]
              go_wp2
              go_ret
              exact ⟨rfl, bstep hb1 hX1_9⟩
          · have ha0b : (((freeOf a).length : Int) == 0) = false := by rw [beq_eq_false_iff_ne]; omega
            clear g1 hvar
            by_cases e1 : hh = 1
            · subst e1
              have HF1 := hide (g2 rfl)
              clear g2 g3 ha0
              have HC2 := hide (iU0 (sa := some ⟨w1.heap.size, 0, none⟩) (sc := 0) (.cells #[] 51) (unhide HA) (unhide HB) (unhide HFA) (unhide HFB) (unhide HM) (Below.refl _ _))
              go_wp2_with fail
              refine (unhide HC2).mono ?_
              clear HC2
              rintro e w2 ⟨v2, rfl, hOo, hb2⟩
              have hX1_2 : Below w1.heap.size w1 w2 := bstep (cell_below _ _) hb2
              obtain ⟨oa, oc, rfl, _, _, hRo⟩ := hOo.shape
              have HRo := hide hRo
              clear hOo hRo
              have HC3 := hide (sU0 (sa := some ⟨w2.heap.size, 0, none⟩) (sc := 0) (.cells #[] 51) (unhide HA) (unhide HB) hla hlb (unhide HFA) (unhide HFB) (unhide HM) hX1_2)
              go_wp2_with fail
              refine (unhide HC3).mono ?_
              clear HC3
              rintro e w3 ⟨v3, rfl, hOp, hb3⟩
              have hX1_3 : Below w1.heap.size w1 w3 := bstep (bstep hX1_2 (cell_below _ _)) hb3
              have hX2_3 : Below w2.heap.size w2 w3 := bstep (cell_below _ _) hb3
              obtain ⟨pa, pc, rfl, _, _, hRp⟩ := hOp.shape
              have HRp := hide hRp
              clear hOp hRp
              have HC4 := hide (cB (k := 2) (sc := oc) (tc := pc) (by omega) (unhide HFO) ((unhide HRo).below hX2_3) (unhide HRp))
              go_wp2_with fail
              refine (unhide HC4).mono ?_
              clear HC4
              rintro e w4 ⟨rfl, hb4⟩
              have hX1_4 : Below w1.heap.size w1 w4 := bstep hX1_3 hb4
              have hX2_4 : Below w2.heap.size w2 w4 := bstep hX2_3 hb4
              have HC5 := hide (sT hla (unhide HA) (unhide HFA) hX1_4 (unhide HTA))
              go_wp2_with fail
              refine (unhide HC5).mono ?_
              clear HC5
              rintro e w5 ⟨rfl, hb5⟩
              have hX1_5 : Below w1.heap.size w1 w5 := bstep hX1_4 hb5
              have hX2_5 : Below w2.heap.size w2 w5 := bstep hX2_4 hb5
              have HC6 := hide (sT hlb (unhide HB) (unhide HFB) hX1_5 (unhide HTB))
              go_wp2_with fail
              refine (unhide HC6).mono ?_
              clear HC6
              rintro e w6 ⟨rfl, hb6⟩
              have hX1_6 : Below w1.heap.size w1 w6 := bstep hX1_5 hb6
              have hX2_6 : Below w2.heap.size w2 w6 := bstep hX2_5 hb6
              have HC7 := hide (specTrmFree_any ya yc b w6 (by omega) (OwnC.row (OwnC.below (unhide HB) hX1_6)))
              go_wp2_with fail
              refine (unhide HC7).mono ?_
              clear HC7
              rintro e w7 ⟨v7, rfl, hI7, hb7⟩
              have hX1_7 : Below w1.heap.size w1 w7 := bstep hX1_6 hb7
              have hX2_7 : Below w2.heap.size w2 w7 := bstep hX2_6 hb7
              obtain ⟨f7a, f7c, rfl, _⟩ := hI7.shape
              clear hI7
              rw [hb0]
              have HC8 := hide (specTrmFree_any xa xc a w7 (by omega) (OwnC.row (OwnC.below (unhide HA) hX1_7)))
              go_wp2_with fail
              refine (unhide HC8).mono ?_
              clear HC8
              rintro e w8 ⟨v8, rfl, hI8, hb8⟩
              have hX1_8 : Below w1.heap.size w1 w8 := bstep hX1_7 hb8
              have hX2_8 : Below w2.heap.size w2 w8 := bstep hX2_7 hb8
              obtain ⟨f8a, f8c, rfl, _⟩ := hI8.shape
              clear hI8
              have HC9 := hide (iF1 (k := 2) (sc := oc) (by omega) (unhide HFO) ((unhide HRo).below hX2_8) (unhide HA) (unhide HFA) hX1_8 (unhide HF1))
              go_wp2_with fail
              refine (unhide HC9).mono ?_
              clear HC9
              rintro e w9 ⟨ua, uc, rfl, hU, hb9⟩
              have hX1_9 : Below w1.heap.size w1 w9 := bstep hX1_8 hb9
              have hX2_9 : Below w2.heap.size w2 w9 := bstep hX2_8 hb9
              have HC10 := hide (cT hlb hU (OwnC.below (unhide HB) hX1_9))
              go_wp2_with fail
              refine (unhide HC10).mono ?_
              clear HC10
              rintro e w10 ⟨rfl, hb10⟩
              have hX1_10 : Below w1.heap.size w1 w10 := bstep hX1_9 hb10
              have hX2_10 : Below w2.heap.size w2 w10 := bstep hX2_9 hb10
              go_wp2
              go_ret
              exact ⟨rfl, bstep hb1 hX1_10⟩
            · have g6 := g3 e1
              clear g2 g3 ha0 e1
              rcases g6 with rfl | rfl
              · skip
                have HC2 := hide (iU0 (sa := some ⟨w1.heap.size, 0, none⟩) (sc := 0) (.cells #[] 51) (unhide HA) (unhide HB) (unhide HFA) (unhide HFB) (unhide HM) (Below.refl _ _))
                go_wp2_with fail
                refine (unhide HC2).mono ?_
                clear HC2
                rintro e w2 ⟨v2, rfl, hOo, hb2⟩
                have hX1_2 : Below w1.heap.size w1 w2 := bstep (cell_below _ _) hb2
                obtain ⟨oa, oc, rfl, _, _, hRo⟩ := hOo.shape
                have HRo := hide hRo
                clear hOo hRo
                have HC3 := hide (sU0 (sa := some ⟨w2.heap.size, 0, none⟩) (sc := 0) (.cells #[] 51) (unhide HA) (unhide HB) hla hlb (unhide HFA) (unhide HFB) (unhide HM) hX1_2)
                go_wp2_with fail
                refine (unhide HC3).mono ?_
                clear HC3
                rintro e w3 ⟨v3, rfl, hOp, hb3⟩
                have hX1_3 : Below w1.heap.size w1 w3 := bstep (bstep hX1_2 (cell_below _ _)) hb3
                have hX2_3 : Below w2.heap.size w2 w3 := bstep (cell_below _ _) hb3
                obtain ⟨pa, pc, rfl, _, _, hRp⟩ := hOp.shape
                have HRp := hide hRp
                clear hOp hRp
                have HC4 := hide (cB (k := 2) (sc := oc) (tc := pc) (by omega) (unhide HFO) ((unhide HRo).below hX2_3) (unhide HRp))
                go_wp2_with fail
                refine (unhide HC4).mono ?_
                clear HC4
                rintro e w4 ⟨rfl, hb4⟩
                have hX1_4 : Below w1.heap.size w1 w4 := bstep hX1_3 hb4
                have hX2_4 : Below w2.heap.size w2 w4 := bstep hX2_3 hb4
                have HC5 := hide (sT hla (unhide HA) (unhide HFA) hX1_4 (unhide HTA))
                go_wp2_with fail
                refine (unhide HC5).mono ?_
                clear HC5
                rintro e w5 ⟨rfl, hb5⟩
                have hX1_5 : Below w1.heap.size w1 w5 := bstep hX1_4 hb5
                have hX2_5 : Below w2.heap.size w2 w5 := bstep hX2_4 hb5
                have HC6 := hide (sT hlb (unhide HB) (unhide HFB) hX1_5 (unhide HTB))
                go_wp2_with fail
                refine (unhide HC6).mono ?_
                clear HC6
                rintro e w6 ⟨rfl, hb6⟩
                have hX1_6 : Below w1.heap.size w1 w6 := bstep hX1_5 hb6
                have hX2_6 : Below w2.heap.size w2 w6 := bstep hX2_5 hb6
                have HC7 := hide (specTrmFree_any ya yc b w6 (by omega) (OwnC.row (OwnC.below (unhide HB) hX1_6)))
                go_wp2_with fail
                refine (unhide HC7).mono ?_
                clear HC7
                rintro e w7 ⟨v7, rfl, hI7, hb7⟩
                have hX1_7 : Below w1.heap.size w1 w7 := bstep hX1_6 hb7
                have hX2_7 : Below w2.heap.size w2 w7 := bstep hX2_6 hb7
                obtain ⟨f7a, f7c, rfl, _⟩ := hI7.shape
                clear hI7
                rw [hb0]
                have HC8 := hide (specTrmFree_any xa xc a w7 (by omega) (OwnC.row (OwnC.below (unhide HA) hX1_7)))
                go_wp2_with fail
                refine (unhide HC8).mono ?_
                clear HC8
                rintro e w8 ⟨v8, rfl, hI8, hb8⟩
                have hX1_8 : Below w1.heap.size w1 w8 := bstep hX1_7 hb8
                have hX2_8 : Below w2.heap.size w2 w8 := bstep hX2_7 hb8
                obtain ⟨f8a, f8c, rfl, _⟩ := hI8.shape
                clear hI8
                go_wp2
                go_ret
                exact ⟨rfl, bstep hb1 hX1_8⟩
              · skip
                have HC2 := hide (iU0 (sa := some ⟨w1.heap.size, 0, none⟩) (sc := 0) (.cells #[] 51) (unhide HA) (unhide HB) (unhide HFA) (unhide HFB) (unhide HM) (Below.refl _ _))
                go_wp2_with fail
                refine (unhide HC2).mono ?_
                clear HC2
                rintro e w2 ⟨v2, rfl, hOo, hb2⟩
                have hX1_2 : Below w1.heap.size w1 w2 := bstep (cell_below _ _) hb2
                obtain ⟨oa, oc, rfl, _, _, hRo⟩ := hOo.shape
                have HRo := hide hRo
                clear hOo hRo
                have HC3 := hide (sU0 (sa := some ⟨w2.heap.size, 0, none⟩) (sc := 0) (.cells #[] 51) (unhide HA) (unhide HB) hla hlb (unhide HFA) (unhide HFB) (unhide HM) hX1_2)
                go_wp2_with fail
                refine (unhide HC3).mono ?_
                clear HC3
                rintro e w3 ⟨v3, rfl, hOp, hb3⟩
                have hX1_3 : Below w1.heap.size w1 w3 := bstep (bstep hX1_2 (cell_below _ _)) hb3
                have hX2_3 : Below w2.heap.size w2 w3 := bstep (cell_below _ _) hb3
                obtain ⟨pa, pc, rfl, _, _, hRp⟩ := hOp.shape
                have HRp := hide hRp
                clear hOp hRp
                have HC4 := hide (cB (k := 2) (sc := oc) (tc := pc) (by omega) (unhide HFO) ((unhide HRo).below hX2_3) (unhide HRp))
                go_wp2_with fail
                refine (unhide HC4).mono ?_
                clear HC4
                rintro e w4 ⟨rfl, hb4⟩
                have hX1_4 : Below w1.heap.size w1 w4 := bstep hX1_3 hb4
                have hX2_4 : Below w2.heap.size w2 w4 := bstep hX2_3 hb4
                have HC5 := hide (sT hla (unhide HA) (unhide HFA) hX1_4 (unhide HTA))
                go_wp2_with fail
                refine (unhide HC5).mono ?_
                clear HC5
                rintro e w5 ⟨rfl, hb5⟩
                have hX1_5 : Below w1.heap.size w1 w5 := bstep hX1_4 hb5
                have hX2_5 : Below w2.heap.size w2 w5 := bstep hX2_4 hb5
                have HC6 := hide (sT hlb (unhide HB) (unhide HFB) hX1_5 (unhide HTB))
                go_wp2_with fail
                refine (unhide HC6).mono ?_
                clear HC6
                rintro e w6 ⟨rfl, hb6⟩
                have hX1_6 : Below w1.heap.size w1 w6 := bstep hX1_5 hb6
                have hX2_6 : Below w2.heap.size w2 w6 := bstep hX2_5 hb6
                have HC7 := hide (specTrmFree_any ya yc b w6 (by omega) (OwnC.row (OwnC.below (unhide HB) hX1_6)))
                go_wp2_with fail
                refine (unhide HC7).mono ?_
                clear HC7
                rintro e w7 ⟨v7, rfl, hI7, hb7⟩
                have hX1_7 : Below w1.heap.size w1 w7 := bstep hX1_6 hb7
                have hX2_7 : Below w2.heap.size w2 w7 := bstep hX2_6 hb7
                obtain ⟨f7a, f7c, rfl, _⟩ := hI7.shape
                clear hI7
                rw [hb0]
                have HC8 := hide (specTrmFree_any xa xc a w7 (by omega) (OwnC.row (OwnC.below (unhide HA) hX1_7)))
                go_wp2_with fail
                refine (unhide HC8).mono ?_
                clear HC8
                rintro e w8 ⟨v8, rfl, hI8, hb8⟩
                have hX1_8 : Below w1.heap.size w1 w8 := bstep hX1_7 hb8
                have hX2_8 : Below w2.heap.size w2 w8 := bstep hX2_7 hb8
                obtain ⟨f8a, f8c, rfl, _⟩ := hI8.shape
                clear hI8
                go_wp2
                go_ret
                exact ⟨rfl, bstep hb1 hX1_8⟩
        · have hbp : 0 < (freeOf b).length := by omega
          clear hgr2 hvar hb0
          have HC2 := hide (iU0 (sa := some ⟨w1.heap.size, 0, none⟩) (sc := 0) (.cells #[] 51) (unhide HA) (unhide HB) (unhide HFA) (unhide HFB) (unhide HM) (Below.refl _ _))
          go_wp2_with fail
          refine (unhide HC2).mono ?_
          clear HC2
          rintro e w2 ⟨v2, rfl, hOo, hb2⟩
          have hX1_2 : Below w1.heap.size w1 w2 := bstep (cell_below _ _) hb2
          obtain ⟨oa, oc, rfl, _, _, hRo⟩ := hOo.shape
          have HRo := hide hRo
          clear hOo hRo
          have HC3 := hide (sU0 (sa := some ⟨w2.heap.size, 0, none⟩) (sc := 0) (.cells #[] 51) (unhide HA) (unhide HB) hla hlb (unhide HFA) (unhide HFB) (unhide HM) hX1_2)
          go_wp2_with fail
          refine (unhide HC3).mono ?_
          clear HC3
          rintro e w3 ⟨v3, rfl, hOp, hb3⟩
          have hX1_3 : Below w1.heap.size w1 w3 := bstep (bstep hX1_2 (cell_below _ _)) hb3
          have hX2_3 : Below w2.heap.size w2 w3 := bstep (cell_below _ _) hb3
          obtain ⟨pa, pc, rfl, _, _, hRp⟩ := hOp.shape
          have HRp := hide hRp
          clear hOp hRp
          have HC4 := hide (cB (k := 2) (sc := oc) (tc := pc) (by omega) (unhide HFO) ((unhide HRo).below hX2_3) (unhide HRp))
          go_wp2_with fail
          refine (unhide HC4).mono ?_
          clear HC4
          rintro e w4 ⟨rfl, hb4⟩
          have hX1_4 : Below w1.heap.size w1 w4 := bstep hX1_3 hb4
          have hX2_4 : Below w2.heap.size w2 w4 := bstep hX2_3 hb4
          have HC5 := hide (sT hla (unhide HA) (unhide HFA) hX1_4 (unhide HTA))
          go_wp2_with fail
          refine (unhide HC5).mono ?_
          clear HC5
          rintro e w5 ⟨rfl, hb5⟩
          have hX1_5 : Below w1.heap.size w1 w5 := bstep hX1_4 hb5
          have hX2_5 : Below w2.heap.size w2 w5 := bstep hX2_4 hb5
          have HC6 := hide (sT hlb (unhide HB) (unhide HFB) hX1_5 (unhide HTB))
          go_wp2_with fail
          refine (unhide HC6).mono ?_
          clear HC6
          rintro e w6 ⟨rfl, hb6⟩
          have hX1_6 : Below w1.heap.size w1 w6 := bstep hX1_5 hb6
          have hX2_6 : Below w2.heap.size w2 w6 := bstep hX2_5 hb6
          have HC7 := hide (specTrmFree_any ya yc b w6 (by omega) (OwnC.row (OwnC.below (unhide HB) hX1_6)))
          go_wp2_with fail
          refine (unhide HC7).mono ?_
          clear HC7
          rintro e w7 ⟨v7, rfl, hI7, hb7⟩
          have hX1_7 : Below w1.heap.size w1 w7 := bstep hX1_6 hb7
          have hX2_7 : Below w2.heap.size w2 w7 := bstep hX2_6 hb7
          obtain ⟨f7a, f7c, rfl, _⟩ := hI7.shape
          clear hI7
          have HC8 := hide (caOk_any w7)
          go_wp2_with fail
          refine (unhide HC8).mono ?_
          clear HC8
          rintro e w8 ⟨rfl, hb8⟩
          have hX1_8 : Below w1.heap.size w1 w8 := bstep hX1_7 hb8
          have hX2_8 : Below w2.heap.size w2 w8 := bstep hX2_7 hb8
          go_wp2
          go_ret
          exact ⟨rfl, bstep hb1 hX1_8⟩
  · have hbb : decide ((len : Int) > 1048576) = true := by simp; omega
    go_enter Try.func17, Try.ntmps17
    go_wp2
    go_ret
    exact ⟨rfl, Below.refl _ _⟩
end Go.Proofs.Ytddhjafpacgdaaa
