/- The walk of the law FnSubUnify: what is bound makes both the same. -/
import Derived.Test.YtddhjafpacgdaaaQUF4CB1L1LU1
namespace Go.Proofs.Ytddhjafpacgdaaa
open Go.RowKit
set_option linter.unusedVariables false
set_option linter.unusedSimpArgs false

set_option maxRecDepth 100000 in
set_option maxHeartbeats 4000000 in
theorem FnSubUnify_walk (ao : Option Addr) (len cap : Nat) (z : Nat → Int) (w : World) (h : Bin w ao len cap z) :
    Calls Try.prog 5 #[.slice ao len cap] w fun e w' => e = .returned (.bool true) ∧ Below w.heap.size w w' := by
  have hmx : len ≤ 9223372036854775807 := by have := h.1; have := h.2.1; unfold maxLen at this; omega
  by_cases hbig : len ≤ 1048576
  · go_enter Try.func5, Try.ntmps5
    go_wp2_with fail
    refine (drawSubUnify_any ao len cap z _ h).mono ?_
    rintro e w1 ⟨v, s, x, a, y, b, rfl, hO1, hF, hA1, hla, hDa, hB1, hlb, hDb, hb1⟩
    have HF := hide hF
    have HFA := hide (dc_fit hDa).1
    have HFB := hide (dc_fit hDb).1
    obtain ⟨sa, sc, rfl, _, _, hR1⟩ := hO1.shape
    obtain ⟨xa, xc, rfl, _⟩ := hA1.shape
    obtain ⟨ya, yc, rfl, _⟩ := hB1.shape
    have HR := hide hR1
    have HA := hide hA1
    have HB := hide hB1
    clear hF hDa hDb hO1 hR1 hA1 hB1 h
    obtain ⟨o, hh, hM⟩ := um_all s a b
    have hFO := um_few (unhide HF) hla hlb hM
    have hcd := um_codes hM
    have HFO := hide hFO
    clear hFO
    cases hso : subOk s with
    | false =>
      have e4 : hh = 4 ∧ o = [] := by
        rcases hcd with ⟨h1, h2⟩
        rcases h2 with ⟨h2, _⟩ | ⟨h2, _⟩
        · exact ⟨h2, h1.resolve_left (by omega)⟩
        · rw [hso] at h2; simp at h2
      obtain ⟨rfl, rfl⟩ := e4
      have HM := hide hM
      clear hM hcd
      have HSO := hide hso
      clear hso
      have HC2 := hide (iU (sc := sc) (o := []) (h := 4) (by omega) (unhide HF) (unhide HR) (unhide HA) (unhide HB) (unhide HFA) (unhide HFB) (unhide HM) (Below.refl _ _))
      go_wp2_with fail
      refine (unhide HC2).mono ?_
      clear HC2
      rintro e w2 ⟨v2, rfl, hO2, hb2⟩
      have hX1_2 : Below w1.heap.size w1 w2 := hb2
      obtain ⟨oa, oc, rfl, hoc, hom, hRO⟩ := hO2.shape
      have HRO := hide hRO
      clear hO2 hRO
      have HC3 := hide (sU (sc := sc) (o := []) (h := 4) (by omega) (unhide HF) (unhide HR) (unhide HA) (unhide HB) hla hlb (unhide HFA) (unhide HFB) (unhide HM) hX1_2)
      go_wp2_with fail
      refine (unhide HC3).mono ?_
      clear HC3
      rintro e w3 ⟨v3, rfl, hO3, hb3⟩
      have hX1_3 : Below w1.heap.size w1 w3 := bstep hX1_2 hb3
      have hX2_3 : Below w2.heap.size w2 w3 := hb3
      obtain ⟨pa, pc, rfl, _, _, hRP⟩ := hO3.shape
      have HRP := hide hRP
      clear hO3 hRP
      have HC4 := hide (cB (k := 12) (sc := oc) (tc := pc) (by omega) (unhide HFO) ((unhide HRO).below hX2_3) (unhide HRP))
      go_wp2_with fail
      refine (unhide HC4).mono ?_
      clear HC4
      rintro e w4 ⟨rfl, hb4⟩
      have hX1_4 : Below w1.heap.size w1 w4 := bstep hX1_3 hb4
      have hX2_4 : Below w2.heap.size w2 w4 := bstep hX2_3 hb4
      have HC5 := hide (iO (sc := sc) (by omega) (unhide HF) (unhide HR) hX1_4 (unhide HSO))
      go_wp2_with fail
      refine (unhide HC5).mono ?_
      clear HC5
      rintro e w5 ⟨rfl, hb5⟩
      have hX1_5 : Below w1.heap.size w1 w5 := bstep hX1_4 hb5
      have hX2_5 : Below w2.heap.size w2 w5 := bstep hX2_4 hb5
      have HC6 := hide (sO (sc := sc) (by omega) (unhide HF) (unhide HR) hX1_5 (unhide HSO))
      go_wp2_with fail
      refine (unhide HC6).mono ?_
      clear HC6
      rintro e w6 ⟨rfl, hb6⟩
      have hX1_6 : Below w1.heap.size w1 w6 := bstep hX1_5 hb6
      have hX2_6 : Below w2.heap.size w2 w6 := bstep hX2_5 hb6
      have HC7 := hide (sO (sc := sc) (by omega) (unhide HF) (unhide HR) hX1_6 (unhide HSO))
      go_wp2_with fail
      refine (unhide HC7).mono ?_
      clear HC7
      rintro e w7 ⟨rfl, hb7⟩
      have hX1_7 : Below w1.heap.size w1 w7 := bstep hX1_6 hb7
      have hX2_7 : Below w2.heap.size w2 w7 := bstep hX2_6 hb7
      have HC8 := hide (caOk_any w7)
      go_wp2_with fail
      refine (unhide HC8).mono ?_
      clear HC8
      rintro e w8 ⟨rfl, hb8⟩
      have hX1_8 : Below w1.heap.size w1 w8 := bstep hX1_7 hb8
      have hX2_8 : Below w2.heap.size w2 w8 := bstep hX2_7 hb8
      go_wp2
      go_ret
      exact ⟨rfl, bstep hb1 hX1_8⟩
    | true =>
      cases hta : trm a with
      | false =>
        have e4 : hh = 4 ∧ o = [] := by
          rcases hcd with ⟨h1, h2⟩
          rcases h2 with ⟨h2, _⟩ | ⟨h2, _⟩
          · exact ⟨h2, h1.resolve_left (by omega)⟩
          · rw [hta] at h2; simp at h2
        obtain ⟨rfl, rfl⟩ := e4
        have HM := hide hM
        clear hM hcd
        have HSO := hide hso
        have HTA := hide hta
        clear hso hta
        have HC2 := hide (iU (sc := sc) (o := []) (h := 4) (by omega) (unhide HF) (unhide HR) (unhide HA) (unhide HB) (unhide HFA) (unhide HFB) (unhide HM) (Below.refl _ _))
        go_wp2_with fail
        refine (unhide HC2).mono ?_
        clear HC2
        rintro e w2 ⟨v2, rfl, hO2, hb2⟩
        have hX1_2 : Below w1.heap.size w1 w2 := hb2
        obtain ⟨oa, oc, rfl, hoc, hom, hRO⟩ := hO2.shape
        have HRO := hide hRO
        clear hO2 hRO
        have HC3 := hide (sU (sc := sc) (o := []) (h := 4) (by omega) (unhide HF) (unhide HR) (unhide HA) (unhide HB) hla hlb (unhide HFA) (unhide HFB) (unhide HM) hX1_2)
        go_wp2_with fail
        refine (unhide HC3).mono ?_
        clear HC3
        rintro e w3 ⟨v3, rfl, hO3, hb3⟩
        have hX1_3 : Below w1.heap.size w1 w3 := bstep hX1_2 hb3
        have hX2_3 : Below w2.heap.size w2 w3 := hb3
        obtain ⟨pa, pc, rfl, _, _, hRP⟩ := hO3.shape
        have HRP := hide hRP
        clear hO3 hRP
        have HC4 := hide (cB (k := 12) (sc := oc) (tc := pc) (by omega) (unhide HFO) ((unhide HRO).below hX2_3) (unhide HRP))
        go_wp2_with fail
        refine (unhide HC4).mono ?_
        clear HC4
        rintro e w4 ⟨rfl, hb4⟩
        have hX1_4 : Below w1.heap.size w1 w4 := bstep hX1_3 hb4
        have hX2_4 : Below w2.heap.size w2 w4 := bstep hX2_3 hb4
        have HC5 := hide (iO (sc := sc) (by omega) (unhide HF) (unhide HR) hX1_4 (unhide HSO))
        go_wp2_with fail
        refine (unhide HC5).mono ?_
        clear HC5
        rintro e w5 ⟨rfl, hb5⟩
        have hX1_5 : Below w1.heap.size w1 w5 := bstep hX1_4 hb5
        have hX2_5 : Below w2.heap.size w2 w5 := bstep hX2_4 hb5
        have HC6 := hide (sO (sc := sc) (by omega) (unhide HF) (unhide HR) hX1_5 (unhide HSO))
        go_wp2_with fail
        refine (unhide HC6).mono ?_
        clear HC6
        rintro e w6 ⟨rfl, hb6⟩
        have hX1_6 : Below w1.heap.size w1 w6 := bstep hX1_5 hb6
        have hX2_6 : Below w2.heap.size w2 w6 := bstep hX2_5 hb6
        have HC7 := hide (sO (sc := sc) (by omega) (unhide HF) (unhide HR) hX1_6 (unhide HSO))
        go_wp2_with fail
        refine (unhide HC7).mono ?_
        clear HC7
        rintro e w7 ⟨rfl, hb7⟩
        have hX1_7 : Below w1.heap.size w1 w7 := bstep hX1_6 hb7
        have hX2_7 : Below w2.heap.size w2 w7 := bstep hX2_6 hb7
        have HC8 := hide (sT hla (unhide HA) (unhide HFA) hX1_7 (unhide HTA))
        go_wp2_with fail
        refine (unhide HC8).mono ?_
        clear HC8
        rintro e w8 ⟨rfl, hb8⟩
        have hX1_8 : Below w1.heap.size w1 w8 := bstep hX1_7 hb8
        have hX2_8 : Below w2.heap.size w2 w8 := bstep hX2_7 hb8
        have HC9 := hide (caOk_any w8)
        go_wp2_with fail
        refine (unhide HC9).mono ?_
        clear HC9
        rintro e w9 ⟨rfl, hb9⟩
        have hX1_9 : Below w1.heap.size w1 w9 := bstep hX1_8 hb9
        have hX2_9 : Below w2.heap.size w2 w9 := bstep hX2_8 hb9
        go_wp2
        go_ret
        exact ⟨rfl, bstep hb1 hX1_9⟩
      | true =>
        cases htb : trm b with
        | false =>
          have e4 : hh = 4 ∧ o = [] := by
            rcases hcd with ⟨h1, h2⟩
            rcases h2 with ⟨h2, _⟩ | ⟨h2, _⟩
            · exact ⟨h2, h1.resolve_left (by omega)⟩
            · rw [htb] at h2; simp at h2
          obtain ⟨rfl, rfl⟩ := e4
          have HM := hide hM
          clear hM hcd
          have HSO := hide hso
          have HTA := hide hta
          have HTB := hide htb
          clear hso hta htb
          have HC2 := hide (iU (sc := sc) (o := []) (h := 4) (by omega) (unhide HF) (unhide HR) (unhide HA) (unhide HB) (unhide HFA) (unhide HFB) (unhide HM) (Below.refl _ _))
          go_wp2_with fail
          refine (unhide HC2).mono ?_
          clear HC2
          rintro e w2 ⟨v2, rfl, hO2, hb2⟩
          have hX1_2 : Below w1.heap.size w1 w2 := hb2
          obtain ⟨oa, oc, rfl, hoc, hom, hRO⟩ := hO2.shape
          have HRO := hide hRO
          clear hO2 hRO
          have HC3 := hide (sU (sc := sc) (o := []) (h := 4) (by omega) (unhide HF) (unhide HR) (unhide HA) (unhide HB) hla hlb (unhide HFA) (unhide HFB) (unhide HM) hX1_2)
          go_wp2_with fail
          refine (unhide HC3).mono ?_
          clear HC3
          rintro e w3 ⟨v3, rfl, hO3, hb3⟩
          have hX1_3 : Below w1.heap.size w1 w3 := bstep hX1_2 hb3
          have hX2_3 : Below w2.heap.size w2 w3 := hb3
          obtain ⟨pa, pc, rfl, _, _, hRP⟩ := hO3.shape
          have HRP := hide hRP
          clear hO3 hRP
          have HC4 := hide (cB (k := 12) (sc := oc) (tc := pc) (by omega) (unhide HFO) ((unhide HRO).below hX2_3) (unhide HRP))
          go_wp2_with fail
          refine (unhide HC4).mono ?_
          clear HC4
          rintro e w4 ⟨rfl, hb4⟩
          have hX1_4 : Below w1.heap.size w1 w4 := bstep hX1_3 hb4
          have hX2_4 : Below w2.heap.size w2 w4 := bstep hX2_3 hb4
          have HC5 := hide (iO (sc := sc) (by omega) (unhide HF) (unhide HR) hX1_4 (unhide HSO))
          go_wp2_with fail
          refine (unhide HC5).mono ?_
          clear HC5
          rintro e w5 ⟨rfl, hb5⟩
          have hX1_5 : Below w1.heap.size w1 w5 := bstep hX1_4 hb5
          have hX2_5 : Below w2.heap.size w2 w5 := bstep hX2_4 hb5
          have HC6 := hide (sO (sc := sc) (by omega) (unhide HF) (unhide HR) hX1_5 (unhide HSO))
          go_wp2_with fail
          refine (unhide HC6).mono ?_
          clear HC6
          rintro e w6 ⟨rfl, hb6⟩
          have hX1_6 : Below w1.heap.size w1 w6 := bstep hX1_5 hb6
          have hX2_6 : Below w2.heap.size w2 w6 := bstep hX2_5 hb6
          have HC7 := hide (sO (sc := sc) (by omega) (unhide HF) (unhide HR) hX1_6 (unhide HSO))
          go_wp2_with fail
          refine (unhide HC7).mono ?_
          clear HC7
          rintro e w7 ⟨rfl, hb7⟩
          have hX1_7 : Below w1.heap.size w1 w7 := bstep hX1_6 hb7
          have hX2_7 : Below w2.heap.size w2 w7 := bstep hX2_6 hb7
          have HC8 := hide (sT hla (unhide HA) (unhide HFA) hX1_7 (unhide HTA))
          go_wp2_with fail
          refine (unhide HC8).mono ?_
          clear HC8
          rintro e w8 ⟨rfl, hb8⟩
          have hX1_8 : Below w1.heap.size w1 w8 := bstep hX1_7 hb8
          have hX2_8 : Below w2.heap.size w2 w8 := bstep hX2_7 hb8
          have HC9 := hide (sT hlb (unhide HB) (unhide HFB) hX1_8 (unhide HTB))
          go_wp2_with fail
          refine (unhide HC9).mono ?_
          clear HC9
          rintro e w9 ⟨rfl, hb9⟩
          have hX1_9 : Below w1.heap.size w1 w9 := bstep hX1_8 hb9
          have hX2_9 : Below w2.heap.size w2 w9 := bstep hX2_8 hb9
          have HC10 := hide (caOk_any w9)
          go_wp2_with fail
          refine (unhide HC10).mono ?_
          clear HC10
          rintro e w10 ⟨rfl, hb10⟩
          have hX1_10 : Below w1.heap.size w1 w10 := bstep hX1_9 hb10
          have hX2_10 : Below w2.heap.size w2 w10 := bstep hX2_9 hb10
          go_wp2
          go_ret
          exact ⟨rfl, bstep hb1 hX1_10⟩
        | true =>
          have HSO := hide hso
          have HTA := hide hta
          have HTB := hide htb
          have hcd2 : (hh = 1) ∨ (hh = 2 ∧ o = []) ∨ (hh = 3 ∧ o = []) := by
            rcases hcd with ⟨h1, h2⟩
            rcases h2 with ⟨_, h2⟩ | ⟨_, h2⟩
            · exact absurd ⟨hso, hta, htb⟩ h2
            · rcases h2 with h2 | h2 | h2
              · exact .inl h2
              · exact .inr (.inl ⟨h2, h1.resolve_left (by omega)⟩)
              · exact .inr (.inr ⟨h2, h1.resolve_left (by omega)⟩)
          clear hcd hso hta htb
          rcases hcd2 with rfl | ⟨rfl, rfl⟩ | ⟨rfl, rfl⟩
          · have hd := um_done hM
            obtain ⟨q, rfl⟩ := hd.pre
            have hfull := hd.full
            have hzl := hd.lz
            obtain ⟨zz, hz⟩ : ∃ zz, zz = app (ev (s ++ q)) a := ⟨_, rfl⟩
            rw [← hz] at hfull hzl
            have HFU1 := hide hfull.1
            have HFU2 := hide hfull.2
            have HOO := hide hd.oko
            have hsq : s.length ≤ (s ++ q).length := by simp
            have HM := hide hM
            clear hd hfull hz hM
            obtain ⟨oo, hoo⟩ : ∃ oo, oo = s ++ q := ⟨_, rfl⟩
            have HOE := hide hoo
            rw [← hoo] at HFU1 HFU2 HOO HM HFO hsq
            clear hoo
            have HC2 := hide (iU (sc := sc) (o := oo) (h := 1) (by omega) (unhide HF) (unhide HR) (unhide HA) (unhide HB) (unhide HFA) (unhide HFB) (unhide HM) (Below.refl _ _))
            go_wp2_with fail
            refine (unhide HC2).mono ?_
            clear HC2
            rintro e w2 ⟨v2, rfl, hO2, hb2⟩
            have hX1_2 : Below w1.heap.size w1 w2 := hb2
            obtain ⟨oa, oc, rfl, hoc, hom, hRO⟩ := hO2.shape
            have HRO := hide hRO
            clear hO2 hRO
            have HC3 := hide (sU (sc := sc) (o := oo) (h := 1) (by omega) (unhide HF) (unhide HR) (unhide HA) (unhide HB) hla hlb (unhide HFA) (unhide HFB) (unhide HM) hX1_2)
            go_wp2_with fail
            refine (unhide HC3).mono ?_
            clear HC3
            rintro e w3 ⟨v3, rfl, hO3, hb3⟩
            have hX1_3 : Below w1.heap.size w1 w3 := bstep hX1_2 hb3
            have hX2_3 : Below w2.heap.size w2 w3 := hb3
            obtain ⟨pa, pc, rfl, _, _, hRP⟩ := hO3.shape
            have HRP := hide hRP
            clear hO3 hRP
            have HC4 := hide (cB (k := 12) (sc := oc) (tc := pc) (by omega) (unhide HFO) ((unhide HRO).below hX2_3) (unhide HRP))
            go_wp2_with fail
            refine (unhide HC4).mono ?_
            clear HC4
            rintro e w4 ⟨rfl, hb4⟩
            have hX1_4 : Below w1.heap.size w1 w4 := bstep hX1_3 hb4
            have hX2_4 : Below w2.heap.size w2 w4 := bstep hX2_3 hb4
            have HC5 := hide (iO (sc := sc) (by omega) (unhide HF) (unhide HR) hX1_4 (unhide HSO))
            go_wp2_with fail
            refine (unhide HC5).mono ?_
            clear HC5
            rintro e w5 ⟨rfl, hb5⟩
            have hX1_5 : Below w1.heap.size w1 w5 := bstep hX1_4 hb5
            have hX2_5 : Below w2.heap.size w2 w5 := bstep hX2_4 hb5
            have HC6 := hide (sO (sc := sc) (by omega) (unhide HF) (unhide HR) hX1_5 (unhide HSO))
            go_wp2_with fail
            refine (unhide HC6).mono ?_
            clear HC6
            rintro e w6 ⟨rfl, hb6⟩
            have hX1_6 : Below w1.heap.size w1 w6 := bstep hX1_5 hb6
            have hX2_6 : Below w2.heap.size w2 w6 := bstep hX2_5 hb6
            have HC7 := hide (sO (sc := sc) (by omega) (unhide HF) (unhide HR) hX1_6 (unhide HSO))
            go_wp2_with fail
            refine (unhide HC7).mono ?_
            clear HC7
            rintro e w7 ⟨rfl, hb7⟩
            have hX1_7 : Below w1.heap.size w1 w7 := bstep hX1_6 hb7
            have hX2_7 : Below w2.heap.size w2 w7 := bstep hX2_6 hb7
            have HC8 := hide (sT hla (unhide HA) (unhide HFA) hX1_7 (unhide HTA))
            go_wp2_with fail
            refine (unhide HC8).mono ?_
            clear HC8
            rintro e w8 ⟨rfl, hb8⟩
            have hX1_8 : Below w1.heap.size w1 w8 := bstep hX1_7 hb8
            have hX2_8 : Below w2.heap.size w2 w8 := bstep hX2_7 hb8
            have HC9 := hide (sT hlb (unhide HB) (unhide HFB) hX1_8 (unhide HTB))
            go_wp2_with fail
            refine (unhide HC9).mono ?_
            clear HC9
            rintro e w9 ⟨rfl, hb9⟩
            have hX1_9 : Below w1.heap.size w1 w9 := bstep hX1_8 hb9
            have hX2_9 : Below w2.heap.size w2 w9 := bstep hX2_8 hb9
            have HC10 := hide (iF (k := 12) (s := oo) (sc := oc) (by omega) (unhide HFO) ((unhide HRO).below hX2_9) (OwnC.below (unhide HA) hX1_9) (unhide HFA) (Below.refl _ w9))
            go_wp2_with fail
            refine (unhide HC10).mono ?_
            clear HC10
            rintro e w10 ⟨v10, hq10, rfl, hb10⟩
            have hX1_10 : Below w1.heap.size w1 w10 := bstep hX1_9 hb10
            have hX2_10 : Below w2.heap.size w2 w10 := bstep hX2_9 hb10
            rw [unhide HFU1] at hq10 ⊢
            obtain ⟨fa0, fc0, rfl, _⟩ := OwnC.shape (t := zz) hq10
            have HQ0 := hide (show OwnC w10 _ (.slice fa0 zz.length fc0) zz from hq10)
            clear hq10
            simp only [Option.isSome_some]
            have HC11 := hide (iF (k := 12) (s := oo) (sc := oc) (by omega) (unhide HFO) ((unhide HRO).below hX2_10) (OwnC.below (unhide HB) hX1_10) (unhide HFB) (Below.refl _ w10))
            go_wp2_with fail
            refine (unhide HC11).mono ?_
            clear HC11
            rintro e w11 ⟨v11, hq11, rfl, hb11⟩
            have hX1_11 : Below w1.heap.size w1 w11 := bstep hX1_10 hb11
            have hX2_11 : Below w2.heap.size w2 w11 := bstep hX2_10 hb11
            have hX10_11 : Below w10.heap.size w10 w11 := hb11
            rw [unhide HFU2] at hq11 ⊢
            obtain ⟨fa1, fc1, rfl, _⟩ := OwnC.shape (t := zz) hq11
            have HQ1 := hide (show OwnC w11 _ (.slice fa1 zz.length fc1) zz from hq11)
            clear hq11
            simp only [Option.isSome_some]
            have HC12 := hide (iO (k := 12) (s := oo) (sc := oc) (by omega) (unhide HFO) ((unhide HRO).below hX2_11) (Below.refl _ w11) (unhide HOO))
            go_wp2_with fail
            refine (unhide HC12).mono ?_
            clear HC12
            rintro e w12 ⟨rfl, hb12⟩
            have hX1_12 : Below w1.heap.size w1 w12 := bstep hX1_11 hb12
            have hX2_12 : Below w2.heap.size w2 w12 := bstep hX2_11 hb12
            have hX10_12 : Below w10.heap.size w10 w12 := bstep hX10_11 hb12
            have hX11_12 : Below w11.heap.size w11 w12 := hb12
            have HC13 := hide (cB (sc := oc) (tc := sc) (by omega) (unhide HF) (RowB.pre (r := q) (by rw [← unhide HOE]; exact (unhide HRO).below hX2_12)) ((unhide HR).below hX1_12))
            go_wp2_with fail
            refine (unhide HC13).mono ?_
            clear HC13
            rintro e w13 ⟨rfl, hb13⟩
            have hX1_13 : Below w1.heap.size w1 w13 := bstep hX1_12 hb13
            have hX2_13 : Below w2.heap.size w2 w13 := bstep hX2_12 hb13
            have hX10_13 : Below w10.heap.size w10 w13 := bstep hX10_12 hb13
            have hX11_13 : Below w11.heap.size w11 w13 := bstep hX11_12 hb13
            have HC14 := hide (cT (by omega) (OwnC.below (unhide HQ0) hX10_13) (OwnC.below (unhide HQ1) hX11_13))
            go_wp2_with fail
            refine (unhide HC14).mono ?_
            clear HC14
            rintro e w14 ⟨rfl, hb14⟩
            have hX1_14 : Below w1.heap.size w1 w14 := bstep hX1_13 hb14
            have hX2_14 : Below w2.heap.size w2 w14 := bstep hX2_13 hb14
            have hX10_14 : Below w10.heap.size w10 w14 := bstep hX10_13 hb14
            have hX11_14 : Below w11.heap.size w11 w14 := bstep hX11_13 hb14
            go_wp2
            go_ret
            exact ⟨rfl, bstep hb1 hX1_14⟩
          · have HM := hide hM
            clear hM
            have HC2 := hide (iU (sc := sc) (o := []) (h := 2) (by omega) (unhide HF) (unhide HR) (unhide HA) (unhide HB) (unhide HFA) (unhide HFB) (unhide HM) (Below.refl _ _))
            go_wp2_with fail
            refine (unhide HC2).mono ?_
            clear HC2
            rintro e w2 ⟨v2, rfl, hO2, hb2⟩
            have hX1_2 : Below w1.heap.size w1 w2 := hb2
            obtain ⟨oa, oc, rfl, hoc, hom, hRO⟩ := hO2.shape
            have HRO := hide hRO
            clear hO2 hRO
            have HC3 := hide (sU (sc := sc) (o := []) (h := 2) (by omega) (unhide HF) (unhide HR) (unhide HA) (unhide HB) hla hlb (unhide HFA) (unhide HFB) (unhide HM) hX1_2)
            go_wp2_with fail
            refine (unhide HC3).mono ?_
            clear HC3
            rintro e w3 ⟨v3, rfl, hO3, hb3⟩
            have hX1_3 : Below w1.heap.size w1 w3 := bstep hX1_2 hb3
            have hX2_3 : Below w2.heap.size w2 w3 := hb3
            obtain ⟨pa, pc, rfl, _, _, hRP⟩ := hO3.shape
            have HRP := hide hRP
            clear hO3 hRP
            have HC4 := hide (cB (k := 12) (sc := oc) (tc := pc) (by omega) (unhide HFO) ((unhide HRO).below hX2_3) (unhide HRP))
            go_wp2_with fail
            refine (unhide HC4).mono ?_
            clear HC4
            rintro e w4 ⟨rfl, hb4⟩
            have hX1_4 : Below w1.heap.size w1 w4 := bstep hX1_3 hb4
            have hX2_4 : Below w2.heap.size w2 w4 := bstep hX2_3 hb4
            have HC5 := hide (iO (sc := sc) (by omega) (unhide HF) (unhide HR) hX1_4 (unhide HSO))
            go_wp2_with fail
            refine (unhide HC5).mono ?_
            clear HC5
            rintro e w5 ⟨rfl, hb5⟩
            have hX1_5 : Below w1.heap.size w1 w5 := bstep hX1_4 hb5
            have hX2_5 : Below w2.heap.size w2 w5 := bstep hX2_4 hb5
            have HC6 := hide (sO (sc := sc) (by omega) (unhide HF) (unhide HR) hX1_5 (unhide HSO))
            go_wp2_with fail
            refine (unhide HC6).mono ?_
            clear HC6
            rintro e w6 ⟨rfl, hb6⟩
            have hX1_6 : Below w1.heap.size w1 w6 := bstep hX1_5 hb6
            have hX2_6 : Below w2.heap.size w2 w6 := bstep hX2_5 hb6
            have HC7 := hide (sO (sc := sc) (by omega) (unhide HF) (unhide HR) hX1_6 (unhide HSO))
            go_wp2_with fail
            refine (unhide HC7).mono ?_
            clear HC7
            rintro e w7 ⟨rfl, hb7⟩
            have hX1_7 : Below w1.heap.size w1 w7 := bstep hX1_6 hb7
            have hX2_7 : Below w2.heap.size w2 w7 := bstep hX2_6 hb7
            have HC8 := hide (sT hla (unhide HA) (unhide HFA) hX1_7 (unhide HTA))
            go_wp2_with fail
            refine (unhide HC8).mono ?_
            clear HC8
            rintro e w8 ⟨rfl, hb8⟩
            have hX1_8 : Below w1.heap.size w1 w8 := bstep hX1_7 hb8
            have hX2_8 : Below w2.heap.size w2 w8 := bstep hX2_7 hb8
            have HC9 := hide (sT hlb (unhide HB) (unhide HFB) hX1_8 (unhide HTB))
            go_wp2_with fail
            refine (unhide HC9).mono ?_
            clear HC9
            rintro e w9 ⟨rfl, hb9⟩
            have hX1_9 : Below w1.heap.size w1 w9 := bstep hX1_8 hb9
            have hX2_9 : Below w2.heap.size w2 w9 := bstep hX2_8 hb9
            go_wp2
            go_ret
            exact ⟨rfl, bstep hb1 hX1_9⟩
          · have HM := hide hM
            clear hM
            have HC2 := hide (iU (sc := sc) (o := []) (h := 3) (by omega) (unhide HF) (unhide HR) (unhide HA) (unhide HB) (unhide HFA) (unhide HFB) (unhide HM) (Below.refl _ _))
            go_wp2_with fail
            refine (unhide HC2).mono ?_
            clear HC2
            rintro e w2 ⟨v2, rfl, hO2, hb2⟩
            have hX1_2 : Below w1.heap.size w1 w2 := hb2
            obtain ⟨oa, oc, rfl, hoc, hom, hRO⟩ := hO2.shape
            have HRO := hide hRO
            clear hO2 hRO
            have HC3 := hide (sU (sc := sc) (o := []) (h := 3) (by omega) (unhide HF) (unhide HR) (unhide HA) (unhide HB) hla hlb (unhide HFA) (unhide HFB) (unhide HM) hX1_2)
            go_wp2_with fail
            refine (unhide HC3).mono ?_
            clear HC3
            rintro e w3 ⟨v3, rfl, hO3, hb3⟩
            have hX1_3 : Below w1.heap.size w1 w3 := bstep hX1_2 hb3
            have hX2_3 : Below w2.heap.size w2 w3 := hb3
            obtain ⟨pa, pc, rfl, _, _, hRP⟩ := hO3.shape
            have HRP := hide hRP
            clear hO3 hRP
            have HC4 := hide (cB (k := 12) (sc := oc) (tc := pc) (by omega) (unhide HFO) ((unhide HRO).below hX2_3) (unhide HRP))
            go_wp2_with fail
            refine (unhide HC4).mono ?_
            clear HC4
            rintro e w4 ⟨rfl, hb4⟩
            have hX1_4 : Below w1.heap.size w1 w4 := bstep hX1_3 hb4
            have hX2_4 : Below w2.heap.size w2 w4 := bstep hX2_3 hb4
            have HC5 := hide (iO (sc := sc) (by omega) (unhide HF) (unhide HR) hX1_4 (unhide HSO))
            go_wp2_with fail
            refine (unhide HC5).mono ?_
            clear HC5
            rintro e w5 ⟨rfl, hb5⟩
            have hX1_5 : Below w1.heap.size w1 w5 := bstep hX1_4 hb5
            have hX2_5 : Below w2.heap.size w2 w5 := bstep hX2_4 hb5
            have HC6 := hide (sO (sc := sc) (by omega) (unhide HF) (unhide HR) hX1_5 (unhide HSO))
            go_wp2_with fail
            refine (unhide HC6).mono ?_
            clear HC6
            rintro e w6 ⟨rfl, hb6⟩
            have hX1_6 : Below w1.heap.size w1 w6 := bstep hX1_5 hb6
            have hX2_6 : Below w2.heap.size w2 w6 := bstep hX2_5 hb6
            have HC7 := hide (sO (sc := sc) (by omega) (unhide HF) (unhide HR) hX1_6 (unhide HSO))
            go_wp2_with fail
            refine (unhide HC7).mono ?_
            clear HC7
            rintro e w7 ⟨rfl, hb7⟩
            have hX1_7 : Below w1.heap.size w1 w7 := bstep hX1_6 hb7
            have hX2_7 : Below w2.heap.size w2 w7 := bstep hX2_6 hb7
            have HC8 := hide (sT hla (unhide HA) (unhide HFA) hX1_7 (unhide HTA))
            go_wp2_with fail
            refine (unhide HC8).mono ?_
            clear HC8
            rintro e w8 ⟨rfl, hb8⟩
            have hX1_8 : Below w1.heap.size w1 w8 := bstep hX1_7 hb8
            have hX2_8 : Below w2.heap.size w2 w8 := bstep hX2_7 hb8
            have HC9 := hide (sT hlb (unhide HB) (unhide HFB) hX1_8 (unhide HTB))
            go_wp2_with fail
            refine (unhide HC9).mono ?_
            clear HC9
            rintro e w9 ⟨rfl, hb9⟩
            have hX1_9 : Below w1.heap.size w1 w9 := bstep hX1_8 hb9
            have hX2_9 : Below w2.heap.size w2 w9 := bstep hX2_8 hb9
            go_wp2
            go_ret
            exact ⟨rfl, bstep hb1 hX1_9⟩
  · have hbb : decide ((len : Int) > 1048576) = true := by simp; omega
    go_enter Try.func5, Try.ntmps5
    go_wp2
    go_ret
    exact ⟨rfl, Below.refl _ _⟩
end Go.Proofs.Ytddhjafpacgdaaa
