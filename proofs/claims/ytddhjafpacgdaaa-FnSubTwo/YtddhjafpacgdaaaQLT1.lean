/- The walk of the law FnSubTwo: in which order things are made the same makes no difference. -/
import Derived.Test.YtddhjafpacgdaaaQUF4CB1L1LU1
import Derived.Test.YtddhjafpacgdaaaQPlain3Plain6PT3PT4W16
namespace Go.Proofs.Ytddhjafpacgdaaa
open Go.RowKit
set_option linter.unusedVariables false
set_option linter.unusedSimpArgs false

/-- SubFull of two bindings that respect each other: a term of both, one but for variables' numbers; or of neither. -/
theorem full_two {x y : List B} {t : List C} (hx : subOk x = true) (hy : subOk y = true) (ht : trm t = true) (h1 : Sol (ev x) y) (h2 : Sol (ev y) x) : (fullB x t = none ∧ fullB y t = none) ∨ ∃ u v, fullB x t = some u ∧ fullB y t = some v ∧ canonOf u = canonOf v := by
  obtain ⟨e, l⟩ := canon_two hx hy ht h1 h2
  rw [fullB_ev hx ht, fullB_ev hy ht, ← l]
  by_cases hl : (app (ev x) t).length ≤ 40
  · rw [if_pos hl, if_pos hl]; exact .inr ⟨_, _, rfl, rfl, e⟩
  · rw [if_neg hl, if_neg hl]; exact .inl ⟨rfl, rfl⟩
theorem cell_two0 (w : World) (x y : Value) (T : TypeId) : (w.alloc (.cells #[x, y] T)).cell? ⟨w.heap.size, 0, none⟩ = some x := by
  have hb := World.alloc_heap_new w (.cells #[x, y] T)
  simp only [World.cell?]
  rw [hb]
  rfl
theorem cell_two1 (w : World) (x y : Value) (T : TypeId) : (w.alloc (.cells #[x, y] T)).cell? ⟨w.heap.size, 1, none⟩ = some y := by
  have hb := World.alloc_heap_new w (.cells #[x, y] T)
  simp only [World.cell?]
  rw [hb]
  rfl
theorem bin_below {w w' : World} {ao : Option Addr} {len cap : Nat} {z : Nat → Int} (h : Bin w ao len cap z) (hb : Below w.heap.size w w') : Bin w' ao len cap z := by
  obtain ⟨h1, h2, h3, h4⟩ := h
  refine ⟨h1, h2, h3, ?_⟩
  rcases h4 with h4 | ⟨b, off, e, h4⟩
  · exact .inl h4
  · exact .inr ⟨b, off, e, fun i hi => (hb.cell (p := ⟨b, _, none⟩) (World.block_lt_of_cell? w _ (h4 i hi))).trans (h4 i hi)⟩
/-- A call of SubFull that tells none. -/
theorem iF0 {k base : Nat} {s : List B} {a : List C} {sa xa : Option Addr} {sc xc : Nat} {w W : World} (hk : k ≤ 200) (hF : FewK k s) (hA : RowB W sa s) (ha : OwnC w base (.slice xa a.length xc) a) (fa : Fit a) (hB : Below w.heap.size w W) (e : fullB s a = none) :
    Calls Try.prog 40 #[.slice sa s.length sc, .slice xa a.length xc] W fun e w' => ∃ ya yc, e = .returned (.tuple #[.slice ya 0 yc, .bool false]) ∧ Below W.heap.size W w' := by
  refine (iF (w := W) (sc := sc) hk hF hA (OwnC.below ha hB) fa (Below.refl _ _)).mono ?_
  rintro e' w' ⟨v, h1, rfl, h2⟩
  rw [e] at h1 ⊢
  obtain ⟨ya, yc, rfl, _⟩ := OwnC.shape (t := []) h1
  exact ⟨ya, yc, rfl, h2⟩

set_option maxRecDepth 100000 in
set_option maxHeartbeats 8000000 in
theorem FnSubTwo_walk (ao : Option Addr) (len cap : Nat) (z : Nat → Int) (bo : Option Addr) (len' cap' : Nat) (z' : Nat → Int) (w : World) (h : Bin w ao len cap z) (h' : Bin w bo len' cap' z') :
    Calls Try.prog 16 #[.slice ao len cap, .slice bo len' cap'] w fun e w' => e = .returned (.bool true) ∧ Below w.heap.size w w' := by
  have hmx : len ≤ 9223372036854775807 := by have := h.1; have := h.2.1; unfold maxLen at this; omega
  have hmx' : len' ≤ 9223372036854775807 := by have := h'.1; have := h'.2.1; unfold maxLen at this; omega
  by_cases hbig : len ≤ 1048576
  · by_cases hbig' : len' ≤ 1048576
    · have HBI := hide h'
      clear h'
      go_enter Try.func16, Try.ntmps16
      go_wp2_with fail
      refine (drawSubUnify_any ao len cap z _ h).mono ?_
      rintro e w1 ⟨v, s, x, a, y, b, rfl, hO1, hF, hA1, hla, hDa, hB1, hlb, hDb, hb1⟩
      have HFA := hide (dc_fit hDa).1
      have HFB := hide (dc_fit hDb).1
      obtain ⟨sa, sc, rfl, _, _, _⟩ := hO1.shape
      obtain ⟨xa, xc, rfl, _⟩ := hA1.shape
      obtain ⟨ya, yc, rfl, _⟩ := hB1.shape
      have HA := hide hA1
      have HB := hide hB1
      clear hF hDa hDb hO1 hA1 hB1 h
      go_wp2_with fail
      refine (drawSubUnify_any bo len' cap' z' _ (bin_below (unhide HBI) hb1)).mono ?_
      rintro e w2 ⟨v, s2, x, c, y, d, rfl, hO1, hF, hA1, hlc, hDa, hB1, hld, hDb, hb2⟩
      have HFC := hide (dc_fit hDa).1
      have HFD := hide (dc_fit hDb).1
      obtain ⟨ta, tc, rfl, _, _, _⟩ := hO1.shape
      obtain ⟨pa, pc, rfl, _⟩ := hA1.shape
      obtain ⟨qa, qc, rfl, _⟩ := hB1.shape
      have HC := hide hA1
      have HD := hide hB1
      clear hF hDa hDb hO1 hA1 hB1 HBI
      cases hta : trm a with
      | false =>
        have HTA := hide hta
        clear hta
        have HC3 := hide (sT hla (unhide HA) (unhide HFA) hb2 (unhide HTA))
        go_wp2_with fail
        refine (unhide HC3).mono ?_
        clear HC3
        rintro e w3 ⟨rfl, hb3⟩
        have hX1_3 : Below w1.heap.size w1 w3 := bstep hb2 hb3
        have hX2_3 : Below w2.heap.size w2 w3 := hb3
        have HC4 := hide (caOk_any w3)
        go_wp2_with fail
        refine (unhide HC4).mono ?_
        clear HC4
        rintro e w4 ⟨rfl, hb4⟩
        have hX1_4 : Below w1.heap.size w1 w4 := bstep hX1_3 hb4
        have hX2_4 : Below w2.heap.size w2 w4 := bstep hX2_3 hb4
        go_wp2
        go_ret
        exact ⟨rfl, bstep hb1 hX1_4⟩
      | true =>
        cases htb : trm b with
        | false =>
          have HTA := hide hta
          have HTB := hide htb
          clear hta htb
          have HC3 := hide (sT hla (unhide HA) (unhide HFA) hb2 (unhide HTA))
          go_wp2_with fail
          refine (unhide HC3).mono ?_
          clear HC3
          rintro e w3 ⟨rfl, hb3⟩
          have hX1_3 : Below w1.heap.size w1 w3 := bstep hb2 hb3
          have hX2_3 : Below w2.heap.size w2 w3 := hb3
          have HC4 := hide (sT hlb (unhide HB) (unhide HFB) hX1_3 (unhide HTB))
          go_wp2_with fail
          refine (unhide HC4).mono ?_
          clear HC4
          rintro e w4 ⟨rfl, hb4⟩
          have hX1_4 : Below w1.heap.size w1 w4 := bstep hX1_3 hb4
          have hX2_4 : Below w2.heap.size w2 w4 := bstep hX2_3 hb4
          have HC5 := hide (caOk_any w4)
          go_wp2_with fail
          refine (unhide HC5).mono ?_
          clear HC5
          rintro e w5 ⟨rfl, hb5⟩
          have hX1_5 : Below w1.heap.size w1 w5 := bstep hX1_4 hb5
          have hX2_5 : Below w2.heap.size w2 w5 := bstep hX2_4 hb5
          go_wp2
          go_ret
          exact ⟨rfl, bstep hb1 hX1_5⟩
        | true =>
          cases htc : trm c with
          | false =>
            have HTA := hide hta
            have HTB := hide htb
            have HTC := hide htc
            clear hta htb htc
            have HC3 := hide (sT hla (unhide HA) (unhide HFA) hb2 (unhide HTA))
            go_wp2_with fail
            refine (unhide HC3).mono ?_
            clear HC3
            rintro e w3 ⟨rfl, hb3⟩
            have hX1_3 : Below w1.heap.size w1 w3 := bstep hb2 hb3
            have hX2_3 : Below w2.heap.size w2 w3 := hb3
            have HC4 := hide (sT hlb (unhide HB) (unhide HFB) hX1_3 (unhide HTB))
            go_wp2_with fail
            refine (unhide HC4).mono ?_
            clear HC4
            rintro e w4 ⟨rfl, hb4⟩
            have hX1_4 : Below w1.heap.size w1 w4 := bstep hX1_3 hb4
            have hX2_4 : Below w2.heap.size w2 w4 := bstep hX2_3 hb4
            have HC5 := hide (sT hlc (unhide HC) (unhide HFC) hX2_4 (unhide HTC))
            go_wp2_with fail
            refine (unhide HC5).mono ?_
            clear HC5
            rintro e w5 ⟨rfl, hb5⟩
            have hX1_5 : Below w1.heap.size w1 w5 := bstep hX1_4 hb5
            have hX2_5 : Below w2.heap.size w2 w5 := bstep hX2_4 hb5
            have HC6 := hide (caOk_any w5)
            go_wp2_with fail
            refine (unhide HC6).mono ?_
            clear HC6
            rintro e w6 ⟨rfl, hb6⟩
            have hX1_6 : Below w1.heap.size w1 w6 := bstep hX1_5 hb6
            have hX2_6 : Below w2.heap.size w2 w6 := bstep hX2_5 hb6
            go_wp2
            go_ret
            exact ⟨rfl, bstep hb1 hX1_6⟩
          | true =>
            cases htd : trm d with
            | false =>
              have HTA := hide hta
              have HTB := hide htb
              have HTC := hide htc
              have HTD := hide htd
              clear hta htb htc htd
              have HC3 := hide (sT hla (unhide HA) (unhide HFA) hb2 (unhide HTA))
              go_wp2_with fail
              refine (unhide HC3).mono ?_
              clear HC3
              rintro e w3 ⟨rfl, hb3⟩
              have hX1_3 : Below w1.heap.size w1 w3 := bstep hb2 hb3
              have hX2_3 : Below w2.heap.size w2 w3 := hb3
              have HC4 := hide (sT hlb (unhide HB) (unhide HFB) hX1_3 (unhide HTB))
              go_wp2_with fail
              refine (unhide HC4).mono ?_
              clear HC4
              rintro e w4 ⟨rfl, hb4⟩
              have hX1_4 : Below w1.heap.size w1 w4 := bstep hX1_3 hb4
              have hX2_4 : Below w2.heap.size w2 w4 := bstep hX2_3 hb4
              have HC5 := hide (sT hlc (unhide HC) (unhide HFC) hX2_4 (unhide HTC))
              go_wp2_with fail
              refine (unhide HC5).mono ?_
              clear HC5
              rintro e w5 ⟨rfl, hb5⟩
              have hX1_5 : Below w1.heap.size w1 w5 := bstep hX1_4 hb5
              have hX2_5 : Below w2.heap.size w2 w5 := bstep hX2_4 hb5
              have HC6 := hide (sT hld (unhide HD) (unhide HFD) hX2_5 (unhide HTD))
              go_wp2_with fail
              refine (unhide HC6).mono ?_
              clear HC6
              rintro e w6 ⟨rfl, hb6⟩
              have hX1_6 : Below w1.heap.size w1 w6 := bstep hX1_5 hb6
              have hX2_6 : Below w2.heap.size w2 w6 := bstep hX2_5 hb6
              have HC7 := hide (caOk_any w6)
              go_wp2_with fail
              refine (unhide HC7).mono ?_
              clear HC7
              rintro e w7 ⟨rfl, hb7⟩
              have hX1_7 : Below w1.heap.size w1 w7 := bstep hX1_6 hb7
              have hX2_7 : Below w2.heap.size w2 w7 := bstep hX2_6 hb7
              go_wp2
              go_ret
              exact ⟨rfl, bstep hb1 hX1_7⟩
            | true =>
              obtain ⟨o, one, hM1⟩ := um_all [] a b
              obtain ⟨p, two, hM2⟩ := um_all o c d
              obtain ⟨q, three, hM3⟩ := um_all [] c d
              obtain ⟨r, four, hM4⟩ := um_all q a b
              have HFO := hide (um_few (FewK.nil 0) hla hlb hM1)
              have HFP := hide (um_few (unhide HFO) hlc hld hM2)
              have HFQ := hide (um_few (FewK.nil 0) hlc hld hM3)
              have HFR := hide (um_few (unhide HFQ) hla hlb hM4)
              have h11 : (one != one) = false := by simp
              have HT1 : Hid (one = 1 → two = 1 → three = 3 ∨ (three = 1 ∧ (four = 3 ∨ (four = 1 ∧ Sol (ev p) r)))) := fun e1 e2 => by
                subst e1
                subst e2
                exact um_two1 hM1 hM2 hM3 (fun _ => hM4)
              have HT2 : Hid (three = 1 → four = 1 → one = 3 ∨ (one = 1 ∧ (two = 3 ∨ (two = 1 ∧ Sol (ev r) p)))) := fun e1 e2 => by
                subst e1
                subst e2
                exact um_two1 hM3 hM4 hM1 (fun _ => hM2)
              have HD2 : Hid (two = 1 → subOk p = true) := fun e => by subst e; exact (um_done hM2).oko
              have HD4 : Hid (four = 1 → subOk r = true) := fun e => by subst e; exact (um_done hM4).oko
              have HM1 := hide hM1
              have HM2 := hide hM2
              have HM3 := hide hM3
              have HM4 := hide hM4
              have HTA := hide hta
              have HTB := hide htb
              have HTC := hide htc
              have HTD := hide htd
              clear hM1 hM2 hM3 hM4 hta htb htc htd
              by_cases hfirst : one = 1 ∧ two = 1
              · obtain ⟨rfl, rfl⟩ := hfirst
                have hT1 := unhide HT1 rfl rfl
                rcases hT1 with rfl | ⟨rfl, rfl | ⟨rfl, hS1⟩⟩
                · clear HT1 HT2 HD2 HD4
                  have HC3 := hide (sT hla (unhide HA) (unhide HFA) hb2 (unhide HTA))
                  go_wp2_with fail
                  refine (unhide HC3).mono ?_
                  clear HC3
                  rintro e w3 ⟨rfl, hb3⟩
                  have hX1_3 : Below w1.heap.size w1 w3 := bstep hb2 hb3
                  have hX2_3 : Below w2.heap.size w2 w3 := hb3
                  have HC4 := hide (sT hlb (unhide HB) (unhide HFB) hX1_3 (unhide HTB))
                  go_wp2_with fail
                  refine (unhide HC4).mono ?_
                  clear HC4
                  rintro e w4 ⟨rfl, hb4⟩
                  have hX1_4 : Below w1.heap.size w1 w4 := bstep hX1_3 hb4
                  have hX2_4 : Below w2.heap.size w2 w4 := bstep hX2_3 hb4
                  have HC5 := hide (sT hlc (unhide HC) (unhide HFC) hX2_4 (unhide HTC))
                  go_wp2_with fail
                  refine (unhide HC5).mono ?_
                  clear HC5
                  rintro e w5 ⟨rfl, hb5⟩
                  have hX1_5 : Below w1.heap.size w1 w5 := bstep hX1_4 hb5
                  have hX2_5 : Below w2.heap.size w2 w5 := bstep hX2_4 hb5
                  have HC6 := hide (sT hld (unhide HD) (unhide HFD) hX2_5 (unhide HTD))
                  go_wp2_with fail
                  refine (unhide HC6).mono ?_
                  clear HC6
                  rintro e w6 ⟨rfl, hb6⟩
                  have hX1_6 : Below w1.heap.size w1 w6 := bstep hX1_5 hb6
                  have hX2_6 : Below w2.heap.size w2 w6 := bstep hX2_5 hb6
                  have HC7 := hide (iU0 (sa := some ⟨w6.heap.size, 0, none⟩) (sc := 0) (.cells #[] 51) (unhide HA) (unhide HB) (unhide HFA) (unhide HFB) (unhide HM1) hX1_6)
                  go_wp2_with fail
                  refine (unhide HC7).mono ?_
                  clear HC7
                  rintro e w7 ⟨v7, rfl, hOo, hb7⟩
                  have hX1_7 : Below w1.heap.size w1 w7 := bstep (bstep hX1_6 (cell_below _ _)) hb7
                  have hX2_7 : Below w2.heap.size w2 w7 := bstep (bstep hX2_6 (cell_below _ _)) hb7
                  obtain ⟨oa, oc, rfl, _, _, hRo⟩ := hOo.shape
                  have HRo := hide hRo
                  clear hOo hRo
                  have HC8 := hide (sU0 (sa := some ⟨w7.heap.size, 0, none⟩) (sc := 0) (.cells #[] 51) (unhide HA) (unhide HB) hla hlb (unhide HFA) (unhide HFB) (unhide HM1) hX1_7)
                  go_wp2_with fail
                  refine (unhide HC8).mono ?_
                  clear HC8
                  rintro e w8 ⟨v8, rfl, hOm, hb8⟩
                  have hX1_8 : Below w1.heap.size w1 w8 := bstep (bstep hX1_7 (cell_below _ _)) hb8
                  have hX2_8 : Below w2.heap.size w2 w8 := bstep (bstep hX2_7 (cell_below _ _)) hb8
                  have hX7_8 : Below w7.heap.size w7 w8 := bstep (cell_below _ _) hb8
                  obtain ⟨ma, mc, rfl, _, _, hRm⟩ := hOm.shape
                  have HRm := hide hRm
                  clear hOm hRm
                  have HC9 := hide (cB (k := 2) (sc := oc) (tc := mc) (by omega) (unhide HFO) ((unhide HRo).below hX7_8) (unhide HRm))
                  go_wp2_with fail
                  refine (unhide HC9).mono ?_
                  clear HC9
                  rintro e w9 ⟨rfl, hb9⟩
                  have hX1_9 : Below w1.heap.size w1 w9 := bstep hX1_8 hb9
                  have hX2_9 : Below w2.heap.size w2 w9 := bstep hX2_8 hb9
                  have hX7_9 : Below w7.heap.size w7 w9 := bstep hX7_8 hb9
                  have HC10 := hide (iU (k := 2) (sc := oc) (by omega) (unhide HFO) ((unhide HRo).below hX7_9) (OwnC.below (unhide HC) hX2_9) (OwnC.below (unhide HD) hX2_9) (unhide HFC) (unhide HFD) (unhide HM2) (Below.refl _ w9))
                  go_wp2_with fail
                  refine (unhide HC10).mono ?_
                  clear HC10
                  rintro e w10 ⟨v10, rfl, hOk, hb10⟩
                  have hX1_10 : Below w1.heap.size w1 w10 := bstep hX1_9 hb10
                  have hX2_10 : Below w2.heap.size w2 w10 := bstep hX2_9 hb10
                  have hX7_10 : Below w7.heap.size w7 w10 := bstep hX7_9 hb10
                  obtain ⟨ka, kc, rfl, _, _, hRk⟩ := hOk.shape
                  have HRk := hide hRk
                  clear hOk hRk
                  have HC11 := hide (iU0 (sa := some ⟨w10.heap.size, 0, none⟩) (sc := 0) (.cells #[] 51) (unhide HC) (unhide HD) (unhide HFC) (unhide HFD) (unhide HM3) hX2_10)
                  go_wp2_with fail
                  refine (unhide HC11).mono ?_
                  clear HC11
                  rintro e w11 ⟨v11, rfl, hOn, hb11⟩
                  have hX1_11 : Below w1.heap.size w1 w11 := bstep (bstep hX1_10 (cell_below _ _)) hb11
                  have hX2_11 : Below w2.heap.size w2 w11 := bstep (bstep hX2_10 (cell_below _ _)) hb11
                  have hX7_11 : Below w7.heap.size w7 w11 := bstep (bstep hX7_10 (cell_below _ _)) hb11
                  have hX10_11 : Below w10.heap.size w10 w11 := bstep (cell_below _ _) hb11
                  obtain ⟨na, nc, rfl, _, _, hRn⟩ := hOn.shape
                  have HRn := hide hRn
                  clear hOn hRn
                  have HC12 := hide (iU (k := 2) (sc := nc) (by omega) (unhide HFQ) (unhide HRn) (OwnC.below (unhide HA) hX1_11) (OwnC.below (unhide HB) hX1_11) (unhide HFA) (unhide HFB) (unhide HM4) (Below.refl _ w11))
                  go_wp2_with fail
                  refine (unhide HC12).mono ?_
                  clear HC12
                  rintro e w12 ⟨v12, rfl, hOj, hb12⟩
                  have hX1_12 : Below w1.heap.size w1 w12 := bstep hX1_11 hb12
                  have hX2_12 : Below w2.heap.size w2 w12 := bstep hX2_11 hb12
                  have hX7_12 : Below w7.heap.size w7 w12 := bstep hX7_11 hb12
                  have hX10_12 : Below w10.heap.size w10 w12 := bstep hX10_11 hb12
                  have hX11_12 : Below w11.heap.size w11 w12 := hb12
                  obtain ⟨ja, jc, rfl, _, _, hRj⟩ := hOj.shape
                  have HRj := hide hRj
                  clear hOj hRj
                  go_wp2
                  go_ret
                  exact ⟨rfl, bstep hb1 hX1_12⟩
                · clear HT1 HT2 HD2 HD4
                  have HC3 := hide (sT hla (unhide HA) (unhide HFA) hb2 (unhide HTA))
                  go_wp2_with fail
                  refine (unhide HC3).mono ?_
                  clear HC3
                  rintro e w3 ⟨rfl, hb3⟩
                  have hX1_3 : Below w1.heap.size w1 w3 := bstep hb2 hb3
                  have hX2_3 : Below w2.heap.size w2 w3 := hb3
                  have HC4 := hide (sT hlb (unhide HB) (unhide HFB) hX1_3 (unhide HTB))
                  go_wp2_with fail
                  refine (unhide HC4).mono ?_
                  clear HC4
                  rintro e w4 ⟨rfl, hb4⟩
                  have hX1_4 : Below w1.heap.size w1 w4 := bstep hX1_3 hb4
                  have hX2_4 : Below w2.heap.size w2 w4 := bstep hX2_3 hb4
                  have HC5 := hide (sT hlc (unhide HC) (unhide HFC) hX2_4 (unhide HTC))
                  go_wp2_with fail
                  refine (unhide HC5).mono ?_
                  clear HC5
                  rintro e w5 ⟨rfl, hb5⟩
                  have hX1_5 : Below w1.heap.size w1 w5 := bstep hX1_4 hb5
                  have hX2_5 : Below w2.heap.size w2 w5 := bstep hX2_4 hb5
                  have HC6 := hide (sT hld (unhide HD) (unhide HFD) hX2_5 (unhide HTD))
                  go_wp2_with fail
                  refine (unhide HC6).mono ?_
                  clear HC6
                  rintro e w6 ⟨rfl, hb6⟩
                  have hX1_6 : Below w1.heap.size w1 w6 := bstep hX1_5 hb6
                  have hX2_6 : Below w2.heap.size w2 w6 := bstep hX2_5 hb6
                  have HC7 := hide (iU0 (sa := some ⟨w6.heap.size, 0, none⟩) (sc := 0) (.cells #[] 51) (unhide HA) (unhide HB) (unhide HFA) (unhide HFB) (unhide HM1) hX1_6)
                  go_wp2_with fail
                  refine (unhide HC7).mono ?_
                  clear HC7
                  rintro e w7 ⟨v7, rfl, hOo, hb7⟩
                  have hX1_7 : Below w1.heap.size w1 w7 := bstep (bstep hX1_6 (cell_below _ _)) hb7
                  have hX2_7 : Below w2.heap.size w2 w7 := bstep (bstep hX2_6 (cell_below _ _)) hb7
                  obtain ⟨oa, oc, rfl, _, _, hRo⟩ := hOo.shape
                  have HRo := hide hRo
                  clear hOo hRo
                  have HC8 := hide (sU0 (sa := some ⟨w7.heap.size, 0, none⟩) (sc := 0) (.cells #[] 51) (unhide HA) (unhide HB) hla hlb (unhide HFA) (unhide HFB) (unhide HM1) hX1_7)
                  go_wp2_with fail
                  refine (unhide HC8).mono ?_
                  clear HC8
                  rintro e w8 ⟨v8, rfl, hOm, hb8⟩
                  have hX1_8 : Below w1.heap.size w1 w8 := bstep (bstep hX1_7 (cell_below _ _)) hb8
                  have hX2_8 : Below w2.heap.size w2 w8 := bstep (bstep hX2_7 (cell_below _ _)) hb8
                  have hX7_8 : Below w7.heap.size w7 w8 := bstep (cell_below _ _) hb8
                  obtain ⟨ma, mc, rfl, _, _, hRm⟩ := hOm.shape
                  have HRm := hide hRm
                  clear hOm hRm
                  have HC9 := hide (cB (k := 2) (sc := oc) (tc := mc) (by omega) (unhide HFO) ((unhide HRo).below hX7_8) (unhide HRm))
                  go_wp2_with fail
                  refine (unhide HC9).mono ?_
                  clear HC9
                  rintro e w9 ⟨rfl, hb9⟩
                  have hX1_9 : Below w1.heap.size w1 w9 := bstep hX1_8 hb9
                  have hX2_9 : Below w2.heap.size w2 w9 := bstep hX2_8 hb9
                  have hX7_9 : Below w7.heap.size w7 w9 := bstep hX7_8 hb9
                  have HC10 := hide (iU (k := 2) (sc := oc) (by omega) (unhide HFO) ((unhide HRo).below hX7_9) (OwnC.below (unhide HC) hX2_9) (OwnC.below (unhide HD) hX2_9) (unhide HFC) (unhide HFD) (unhide HM2) (Below.refl _ w9))
                  go_wp2_with fail
                  refine (unhide HC10).mono ?_
                  clear HC10
                  rintro e w10 ⟨v10, rfl, hOk, hb10⟩
                  have hX1_10 : Below w1.heap.size w1 w10 := bstep hX1_9 hb10
                  have hX2_10 : Below w2.heap.size w2 w10 := bstep hX2_9 hb10
                  have hX7_10 : Below w7.heap.size w7 w10 := bstep hX7_9 hb10
                  obtain ⟨ka, kc, rfl, _, _, hRk⟩ := hOk.shape
                  have HRk := hide hRk
                  clear hOk hRk
                  have HC11 := hide (iU0 (sa := some ⟨w10.heap.size, 0, none⟩) (sc := 0) (.cells #[] 51) (unhide HC) (unhide HD) (unhide HFC) (unhide HFD) (unhide HM3) hX2_10)
                  go_wp2_with fail
                  refine (unhide HC11).mono ?_
                  clear HC11
                  rintro e w11 ⟨v11, rfl, hOn, hb11⟩
                  have hX1_11 : Below w1.heap.size w1 w11 := bstep (bstep hX1_10 (cell_below _ _)) hb11
                  have hX2_11 : Below w2.heap.size w2 w11 := bstep (bstep hX2_10 (cell_below _ _)) hb11
                  have hX7_11 : Below w7.heap.size w7 w11 := bstep (bstep hX7_10 (cell_below _ _)) hb11
                  have hX10_11 : Below w10.heap.size w10 w11 := bstep (cell_below _ _) hb11
                  obtain ⟨na, nc, rfl, _, _, hRn⟩ := hOn.shape
                  have HRn := hide hRn
                  clear hOn hRn
                  have HC12 := hide (iU (k := 2) (sc := nc) (by omega) (unhide HFQ) (unhide HRn) (OwnC.below (unhide HA) hX1_11) (OwnC.below (unhide HB) hX1_11) (unhide HFA) (unhide HFB) (unhide HM4) (Below.refl _ w11))
                  go_wp2_with fail
                  refine (unhide HC12).mono ?_
                  clear HC12
                  rintro e w12 ⟨v12, rfl, hOj, hb12⟩
                  have hX1_12 : Below w1.heap.size w1 w12 := bstep hX1_11 hb12
                  have hX2_12 : Below w2.heap.size w2 w12 := bstep hX2_11 hb12
                  have hX7_12 : Below w7.heap.size w7 w12 := bstep hX7_11 hb12
                  have hX10_12 : Below w10.heap.size w10 w12 := bstep hX10_11 hb12
                  have hX11_12 : Below w11.heap.size w11 w12 := hb12
                  obtain ⟨ja, jc, rfl, _, _, hRj⟩ := hOj.shape
                  have HRj := hide hRj
                  clear hOj hRj
                  go_wp2
                  go_ret
                  exact ⟨rfl, bstep hb1 hX1_12⟩
                · have hS2 : Sol (ev r) p := by
                    rcases unhide HT2 rfl rfl with e | ⟨_, e | ⟨_, e⟩⟩
                    · omega
                    · omega
                    · exact e
                  have HA2 := hide (full_two (unhide HD2 rfl) (unhide HD4 rfl) (unhide HTA) hS1 hS2)
                  have HC2 := hide (full_two (unhide HD2 rfl) (unhide HD4 rfl) (unhide HTC) hS1 hS2)
                  clear HT1 HT2 HD2 HD4 hS1 hS2
                  have HC3 := hide (sT hla (unhide HA) (unhide HFA) hb2 (unhide HTA))
                  go_wp2_with fail
                  refine (unhide HC3).mono ?_
                  clear HC3
                  rintro e w3 ⟨rfl, hb3⟩
                  have hX1_3 : Below w1.heap.size w1 w3 := bstep hb2 hb3
                  have hX2_3 : Below w2.heap.size w2 w3 := hb3
                  have HC4 := hide (sT hlb (unhide HB) (unhide HFB) hX1_3 (unhide HTB))
                  go_wp2_with fail
                  refine (unhide HC4).mono ?_
                  clear HC4
                  rintro e w4 ⟨rfl, hb4⟩
                  have hX1_4 : Below w1.heap.size w1 w4 := bstep hX1_3 hb4
                  have hX2_4 : Below w2.heap.size w2 w4 := bstep hX2_3 hb4
                  have HC5 := hide (sT hlc (unhide HC) (unhide HFC) hX2_4 (unhide HTC))
                  go_wp2_with fail
                  refine (unhide HC5).mono ?_
                  clear HC5
                  rintro e w5 ⟨rfl, hb5⟩
                  have hX1_5 : Below w1.heap.size w1 w5 := bstep hX1_4 hb5
                  have hX2_5 : Below w2.heap.size w2 w5 := bstep hX2_4 hb5
                  have HC6 := hide (sT hld (unhide HD) (unhide HFD) hX2_5 (unhide HTD))
                  go_wp2_with fail
                  refine (unhide HC6).mono ?_
                  clear HC6
                  rintro e w6 ⟨rfl, hb6⟩
                  have hX1_6 : Below w1.heap.size w1 w6 := bstep hX1_5 hb6
                  have hX2_6 : Below w2.heap.size w2 w6 := bstep hX2_5 hb6
                  have HC7 := hide (iU0 (sa := some ⟨w6.heap.size, 0, none⟩) (sc := 0) (.cells #[] 51) (unhide HA) (unhide HB) (unhide HFA) (unhide HFB) (unhide HM1) hX1_6)
                  go_wp2_with fail
                  refine (unhide HC7).mono ?_
                  clear HC7
                  rintro e w7 ⟨v7, rfl, hOo, hb7⟩
                  have hX1_7 : Below w1.heap.size w1 w7 := bstep (bstep hX1_6 (cell_below _ _)) hb7
                  have hX2_7 : Below w2.heap.size w2 w7 := bstep (bstep hX2_6 (cell_below _ _)) hb7
                  obtain ⟨oa, oc, rfl, _, _, hRo⟩ := hOo.shape
                  have HRo := hide hRo
                  clear hOo hRo
                  have HC8 := hide (sU0 (sa := some ⟨w7.heap.size, 0, none⟩) (sc := 0) (.cells #[] 51) (unhide HA) (unhide HB) hla hlb (unhide HFA) (unhide HFB) (unhide HM1) hX1_7)
                  go_wp2_with fail
                  refine (unhide HC8).mono ?_
                  clear HC8
                  rintro e w8 ⟨v8, rfl, hOm, hb8⟩
                  have hX1_8 : Below w1.heap.size w1 w8 := bstep (bstep hX1_7 (cell_below _ _)) hb8
                  have hX2_8 : Below w2.heap.size w2 w8 := bstep (bstep hX2_7 (cell_below _ _)) hb8
                  have hX7_8 : Below w7.heap.size w7 w8 := bstep (cell_below _ _) hb8
                  obtain ⟨ma, mc, rfl, _, _, hRm⟩ := hOm.shape
                  have HRm := hide hRm
                  clear hOm hRm
                  have HC9 := hide (cB (k := 2) (sc := oc) (tc := mc) (by omega) (unhide HFO) ((unhide HRo).below hX7_8) (unhide HRm))
                  go_wp2_with fail
                  refine (unhide HC9).mono ?_
                  clear HC9
                  rintro e w9 ⟨rfl, hb9⟩
                  have hX1_9 : Below w1.heap.size w1 w9 := bstep hX1_8 hb9
                  have hX2_9 : Below w2.heap.size w2 w9 := bstep hX2_8 hb9
                  have hX7_9 : Below w7.heap.size w7 w9 := bstep hX7_8 hb9
                  have HC10 := hide (iU (k := 2) (sc := oc) (by omega) (unhide HFO) ((unhide HRo).below hX7_9) (OwnC.below (unhide HC) hX2_9) (OwnC.below (unhide HD) hX2_9) (unhide HFC) (unhide HFD) (unhide HM2) (Below.refl _ w9))
                  go_wp2_with fail
                  refine (unhide HC10).mono ?_
                  clear HC10
                  rintro e w10 ⟨v10, rfl, hOk, hb10⟩
                  have hX1_10 : Below w1.heap.size w1 w10 := bstep hX1_9 hb10
                  have hX2_10 : Below w2.heap.size w2 w10 := bstep hX2_9 hb10
                  have hX7_10 : Below w7.heap.size w7 w10 := bstep hX7_9 hb10
                  obtain ⟨ka, kc, rfl, _, _, hRk⟩ := hOk.shape
                  have HRk := hide hRk
                  clear hOk hRk
                  have HC11 := hide (iU0 (sa := some ⟨w10.heap.size, 0, none⟩) (sc := 0) (.cells #[] 51) (unhide HC) (unhide HD) (unhide HFC) (unhide HFD) (unhide HM3) hX2_10)
                  go_wp2_with fail
                  refine (unhide HC11).mono ?_
                  clear HC11
                  rintro e w11 ⟨v11, rfl, hOn, hb11⟩
                  have hX1_11 : Below w1.heap.size w1 w11 := bstep (bstep hX1_10 (cell_below _ _)) hb11
                  have hX2_11 : Below w2.heap.size w2 w11 := bstep (bstep hX2_10 (cell_below _ _)) hb11
                  have hX7_11 : Below w7.heap.size w7 w11 := bstep (bstep hX7_10 (cell_below _ _)) hb11
                  have hX10_11 : Below w10.heap.size w10 w11 := bstep (cell_below _ _) hb11
                  obtain ⟨na, nc, rfl, _, _, hRn⟩ := hOn.shape
                  have HRn := hide hRn
                  clear hOn hRn
                  have HC12 := hide (iU (k := 2) (sc := nc) (by omega) (unhide HFQ) (unhide HRn) (OwnC.below (unhide HA) hX1_11) (OwnC.below (unhide HB) hX1_11) (unhide HFA) (unhide HFB) (unhide HM4) (Below.refl _ w11))
                  go_wp2_with fail
                  refine (unhide HC12).mono ?_
                  clear HC12
                  rintro e w12 ⟨v12, rfl, hOj, hb12⟩
                  have hX1_12 : Below w1.heap.size w1 w12 := bstep hX1_11 hb12
                  have hX2_12 : Below w2.heap.size w2 w12 := bstep hX2_11 hb12
                  have hX7_12 : Below w7.heap.size w7 w12 := bstep hX7_11 hb12
                  have hX10_12 : Below w10.heap.size w10 w12 := bstep hX10_11 hb12
                  have hX11_12 : Below w11.heap.size w11 w12 := hb12
                  obtain ⟨ja, jc, rfl, _, _, hRj⟩ := hOj.shape
                  have HRj := hide hRj
                  clear hOj hRj
                  have hq0 : (w12.alloc (.cells #[.slice xa a.length xc, .slice pa c.length pc] 23)).cell? ⟨w12.heap.size, 0, none⟩ = some (.slice xa a.length xc) := cell_two0 _ _ _ _
                  have hq1 : (w12.alloc (.cells #[.slice xa a.length xc, .slice pa c.length pc] 23)).cell? ⟨w12.heap.size, 1, none⟩ = some (.slice pa c.length pc) := cell_two1 _ _ _ _
                  go_wp2
                  go_loopw [22] (fun i wr => ∃ (k : Nat), k ≤ 2 ∧ i = .int .i64 k ∧ Below w12.heap.size w12 wr ∧ wr.cell? ⟨w12.heap.size, 0, none⟩ = some (.slice xa a.length xc) ∧ wr.cell? ⟨w12.heap.size, 1, none⟩ = some (.slice pa c.length pc)) (fun i _ => 2 - (intOf i).toNat)
                  case atStart => exact ⟨0, Nat.zero_le _, rfl, cell_below _ _, hq0, hq1⟩
                  case round =>
                    clear hq0 hq1
                    obtain ⟨k, hk, rfl, hB, q0, q1⟩ := hrel
                    obtain ⟨w50, h50⟩ : ∃ w50, w50 = wr := ⟨_, rfl⟩
                    subst h50
                    have hbl : w12.heap.size < w50.heap.size := World.block_lt_of_cell? w50 ⟨_, _, none⟩ q0
                    by_cases hk0 : k = 0
                    · subst hk0
                      rcases unhide HA2 with ⟨f1, f2⟩ | ⟨u, v, f1, f2, f3⟩
                      · have HF1 := hide f1
                        have HF2 := hide f2
                        clear f1 f2
                        have HC51 := hide (iF0 (k := 4) (sc := kc) (by omega) (unhide HFP) ((unhide HRk).below (bstep hX10_12 hB)) (unhide HA) (unhide HFA) (bstep hX1_12 hB) (unhide HF1))
                        go_wp2_with fail
                        refine (unhide HC51).mono ?_
                        clear HC51
                        rintro e w51 ⟨ua, uc, rfl, hb51⟩
                        have hX1_51 : Below w1.heap.size w1 w51 := bstep (bstep hX1_12 hB) hb51
                        have hX2_51 : Below w2.heap.size w2 w51 := bstep (bstep hX2_12 hB) hb51
                        have hX7_51 : Below w7.heap.size w7 w51 := bstep (bstep hX7_12 hB) hb51
                        have hX10_51 : Below w10.heap.size w10 w51 := bstep (bstep hX10_12 hB) hb51
                        have hX11_51 : Below w11.heap.size w11 w51 := bstep (bstep hX11_12 hB) hb51
                        have hX12_51 : Below w12.heap.size w12 w51 := bstep hB hb51
                        have hX50_51 : Below w50.heap.size w50 w51 := hb51
                        have q0x := (hX50_51.cell (p := ⟨w12.heap.size, 0, none⟩) hbl).trans q0
                        have q1x := (hX50_51.cell (p := ⟨w12.heap.size, 1, none⟩) hbl).trans q1
                        have HC52 := hide (iF0 (k := 4) (sc := jc) (by omega) (unhide HFR) ((unhide HRj).below hX12_51) (unhide HA) (unhide HFA) hX1_51 (unhide HF2))
                        go_wp2_with fail
                        refine (unhide HC52).mono ?_
                        clear HC52
                        rintro e w52 ⟨va, vc, rfl, hb52⟩
                        have hX1_52 : Below w1.heap.size w1 w52 := bstep hX1_51 hb52
                        have hX2_52 : Below w2.heap.size w2 w52 := bstep hX2_51 hb52
                        have hX7_52 : Below w7.heap.size w7 w52 := bstep hX7_51 hb52
                        have hX10_52 : Below w10.heap.size w10 w52 := bstep hX10_51 hb52
                        have hX11_52 : Below w11.heap.size w11 w52 := bstep hX11_51 hb52
                        have hX12_52 : Below w12.heap.size w12 w52 := bstep hX12_51 hb52
                        have hX50_52 : Below w50.heap.size w50 w52 := bstep hX50_51 hb52
                        go_wp2
                        go_roundw
                        case rel => exact ⟨1, by omega, by go_num, hX12_52, (hX50_52.cell (p := ⟨w12.heap.size, 0, none⟩) hbl).trans q0, (hX50_52.cell (p := ⟨w12.heap.size, 1, none⟩) hbl).trans q1⟩
                        case measure => simp [intOf]
                      · have hul : u.length ≤ 41 := by have := (fullB_some f1).2.1; omega
                        have hvl : v.length ≤ 41 := by have := (fullB_some f2).2.1; omega
                        have hcl : (canonOf u).length ≤ 41 := by rw [canonOf_length]; exact hul
                        have HWF1 := hide (wf_trm (fullB_some f1).1)
                        have HWF2 := hide (wf_trm (fullB_some f2).1)
                        have HF1 := hide f1
                        have HF2 := hide f2
                        have HF3 := hide f3
                        clear f1 f2 f3
                        have HC51 := hide (iF1 (k := 4) (sc := kc) (by omega) (unhide HFP) ((unhide HRk).below (bstep hX10_12 hB)) (unhide HA) (unhide HFA) (bstep hX1_12 hB) (unhide HF1))
                        go_wp2_with fail
                        refine (unhide HC51).mono ?_
                        clear HC51
                        rintro e w51 ⟨ua, uc, rfl, hU, hb51⟩
                        have hX1_51 : Below w1.heap.size w1 w51 := bstep (bstep hX1_12 hB) hb51
                        have hX2_51 : Below w2.heap.size w2 w51 := bstep (bstep hX2_12 hB) hb51
                        have hX7_51 : Below w7.heap.size w7 w51 := bstep (bstep hX7_12 hB) hb51
                        have hX10_51 : Below w10.heap.size w10 w51 := bstep (bstep hX10_12 hB) hb51
                        have hX11_51 : Below w11.heap.size w11 w51 := bstep (bstep hX11_12 hB) hb51
                        have hX12_51 : Below w12.heap.size w12 w51 := bstep hB hb51
                        have hX50_51 : Below w50.heap.size w50 w51 := hb51
                        have HU := hide hU
                        clear hU
                        have q0x := (hX50_51.cell (p := ⟨w12.heap.size, 0, none⟩) hbl).trans q0
                        have q1x := (hX50_51.cell (p := ⟨w12.heap.size, 1, none⟩) hbl).trans q1
                        have HC52 := hide (iF1 (k := 4) (sc := jc) (by omega) (unhide HFR) ((unhide HRj).below hX12_51) (unhide HA) (unhide HFA) hX1_51 (unhide HF2))
                        go_wp2_with fail
                        refine (unhide HC52).mono ?_
                        clear HC52
                        rintro e w52 ⟨va, vc, rfl, hV, hb52⟩
                        have hX1_52 : Below w1.heap.size w1 w52 := bstep hX1_51 hb52
                        have hX2_52 : Below w2.heap.size w2 w52 := bstep hX2_51 hb52
                        have hX7_52 : Below w7.heap.size w7 w52 := bstep hX7_51 hb52
                        have hX10_52 : Below w10.heap.size w10 w52 := bstep hX10_51 hb52
                        have hX11_52 : Below w11.heap.size w11 w52 := bstep hX11_51 hb52
                        have hX12_52 : Below w12.heap.size w12 w52 := bstep hX12_51 hb52
                        have hX50_52 : Below w50.heap.size w50 w52 := bstep hX50_51 hb52
                        have hX51_52 : Below w51.heap.size w51 w52 := hb52
                        have HV := hide hV
                        clear hV
                        have HC53 := hide (TrmCanon_any ua uc u w52 (by omega) (OwnC.row (OwnC.below (unhide HU) hX51_52)) (unhide HWF1))
                        go_wp2_with fail
                        refine (unhide HC53).mono ?_
                        clear HC53
                        rintro e w53 ⟨c8, rfl, hC8, hb53⟩
                        have hX1_53 : Below w1.heap.size w1 w53 := bstep hX1_52 hb53
                        have hX2_53 : Below w2.heap.size w2 w53 := bstep hX2_52 hb53
                        have hX7_53 : Below w7.heap.size w7 w53 := bstep hX7_52 hb53
                        have hX10_53 : Below w10.heap.size w10 w53 := bstep hX10_52 hb53
                        have hX11_53 : Below w11.heap.size w11 w53 := bstep hX11_52 hb53
                        have hX12_53 : Below w12.heap.size w12 w53 := bstep hX12_52 hb53
                        have hX50_53 : Below w50.heap.size w50 w53 := bstep hX50_52 hb53
                        have hX51_53 : Below w51.heap.size w51 w53 := bstep hX51_52 hb53
                        have hX52_53 : Below w52.heap.size w52 w53 := hb53
                        obtain ⟨c8a, c8c, rfl, _⟩ := OwnC.shape hC8
                        have HC8 := hide hC8
                        clear hC8
                        have HC54 := hide (TrmCanon_any va vc v w53 (by omega) (OwnC.row (OwnC.below (unhide HV) hX52_53)) (unhide HWF2))
                        go_wp2_with fail
                        refine (unhide HC54).mono ?_
                        clear HC54
                        rintro e w54 ⟨c9, rfl, hC9, hb54⟩
                        have hX1_54 : Below w1.heap.size w1 w54 := bstep hX1_53 hb54
                        have hX2_54 : Below w2.heap.size w2 w54 := bstep hX2_53 hb54
                        have hX7_54 : Below w7.heap.size w7 w54 := bstep hX7_53 hb54
                        have hX10_54 : Below w10.heap.size w10 w54 := bstep hX10_53 hb54
                        have hX11_54 : Below w11.heap.size w11 w54 := bstep hX11_53 hb54
                        have hX12_54 : Below w12.heap.size w12 w54 := bstep hX12_53 hb54
                        have hX50_54 : Below w50.heap.size w50 w54 := bstep hX50_53 hb54
                        have hX51_54 : Below w51.heap.size w51 w54 := bstep hX51_53 hb54
                        have hX52_54 : Below w52.heap.size w52 w54 := bstep hX52_53 hb54
                        have hX53_54 : Below w53.heap.size w53 w54 := hb54
                        rw [← unhide HF3] at hC9
                        obtain ⟨c9a, c9c, rfl, _⟩ := OwnC.shape hC9
                        have HC9 := hide hC9
                        clear hC9
                        have HC55 := hide (cT hcl (OwnC.below (unhide HC8) hX53_54) (unhide HC9))
                        go_wp2_with fail
                        refine (unhide HC55).mono ?_
                        clear HC55
                        rintro e w55 ⟨rfl, hb55⟩
                        have hX1_55 : Below w1.heap.size w1 w55 := bstep hX1_54 hb55
                        have hX2_55 : Below w2.heap.size w2 w55 := bstep hX2_54 hb55
                        have hX7_55 : Below w7.heap.size w7 w55 := bstep hX7_54 hb55
                        have hX10_55 : Below w10.heap.size w10 w55 := bstep hX10_54 hb55
                        have hX11_55 : Below w11.heap.size w11 w55 := bstep hX11_54 hb55
                        have hX12_55 : Below w12.heap.size w12 w55 := bstep hX12_54 hb55
                        have hX50_55 : Below w50.heap.size w50 w55 := bstep hX50_54 hb55
                        have hX51_55 : Below w51.heap.size w51 w55 := bstep hX51_54 hb55
                        have hX52_55 : Below w52.heap.size w52 w55 := bstep hX52_54 hb55
                        have hX53_55 : Below w53.heap.size w53 w55 := bstep hX53_54 hb55
                        go_wp2
                        go_roundw
                        case rel => exact ⟨1, by omega, by go_num, hX12_55, (hX50_55.cell (p := ⟨w12.heap.size, 0, none⟩) hbl).trans q0, (hX50_55.cell (p := ⟨w12.heap.size, 1, none⟩) hbl).trans q1⟩
                        case measure => simp [intOf]
                    · by_cases hk1 : k = 1
                      · subst hk1
                        rcases unhide HC2 with ⟨f1, f2⟩ | ⟨u, v, f1, f2, f3⟩
                        · have HF1 := hide f1
                          have HF2 := hide f2
                          clear f1 f2
                          have HC51 := hide (iF0 (k := 4) (sc := kc) (by omega) (unhide HFP) ((unhide HRk).below (bstep hX10_12 hB)) (unhide HC) (unhide HFC) (bstep hX2_12 hB) (unhide HF1))
                          go_wp2_with fail
                          refine (unhide HC51).mono ?_
                          clear HC51
                          rintro e w51 ⟨ua, uc, rfl, hb51⟩
                          have hX1_51 : Below w1.heap.size w1 w51 := bstep (bstep hX1_12 hB) hb51
                          have hX2_51 : Below w2.heap.size w2 w51 := bstep (bstep hX2_12 hB) hb51
                          have hX7_51 : Below w7.heap.size w7 w51 := bstep (bstep hX7_12 hB) hb51
                          have hX10_51 : Below w10.heap.size w10 w51 := bstep (bstep hX10_12 hB) hb51
                          have hX11_51 : Below w11.heap.size w11 w51 := bstep (bstep hX11_12 hB) hb51
                          have hX12_51 : Below w12.heap.size w12 w51 := bstep hB hb51
                          have hX50_51 : Below w50.heap.size w50 w51 := hb51
                          have q0x := (hX50_51.cell (p := ⟨w12.heap.size, 0, none⟩) hbl).trans q0
                          have q1x := (hX50_51.cell (p := ⟨w12.heap.size, 1, none⟩) hbl).trans q1
                          have HC52 := hide (iF0 (k := 4) (sc := jc) (by omega) (unhide HFR) ((unhide HRj).below hX12_51) (unhide HC) (unhide HFC) hX2_51 (unhide HF2))
                          go_wp2_with fail
                          refine (unhide HC52).mono ?_
                          clear HC52
                          rintro e w52 ⟨va, vc, rfl, hb52⟩
                          have hX1_52 : Below w1.heap.size w1 w52 := bstep hX1_51 hb52
                          have hX2_52 : Below w2.heap.size w2 w52 := bstep hX2_51 hb52
                          have hX7_52 : Below w7.heap.size w7 w52 := bstep hX7_51 hb52
                          have hX10_52 : Below w10.heap.size w10 w52 := bstep hX10_51 hb52
                          have hX11_52 : Below w11.heap.size w11 w52 := bstep hX11_51 hb52
                          have hX12_52 : Below w12.heap.size w12 w52 := bstep hX12_51 hb52
                          have hX50_52 : Below w50.heap.size w50 w52 := bstep hX50_51 hb52
                          go_wp2
                          go_roundw
                          case rel => exact ⟨2, by omega, by go_num, hX12_52, (hX50_52.cell (p := ⟨w12.heap.size, 0, none⟩) hbl).trans q0, (hX50_52.cell (p := ⟨w12.heap.size, 1, none⟩) hbl).trans q1⟩
                          case measure => simp [intOf]
                        · have hul : u.length ≤ 41 := by have := (fullB_some f1).2.1; omega
                          have hvl : v.length ≤ 41 := by have := (fullB_some f2).2.1; omega
                          have hcl : (canonOf u).length ≤ 41 := by rw [canonOf_length]; exact hul
                          have HWF1 := hide (wf_trm (fullB_some f1).1)
                          have HWF2 := hide (wf_trm (fullB_some f2).1)
                          have HF1 := hide f1
                          have HF2 := hide f2
                          have HF3 := hide f3
                          clear f1 f2 f3
                          have HC51 := hide (iF1 (k := 4) (sc := kc) (by omega) (unhide HFP) ((unhide HRk).below (bstep hX10_12 hB)) (unhide HC) (unhide HFC) (bstep hX2_12 hB) (unhide HF1))
                          go_wp2_with fail
                          refine (unhide HC51).mono ?_
                          clear HC51
                          rintro e w51 ⟨ua, uc, rfl, hU, hb51⟩
                          have hX1_51 : Below w1.heap.size w1 w51 := bstep (bstep hX1_12 hB) hb51
                          have hX2_51 : Below w2.heap.size w2 w51 := bstep (bstep hX2_12 hB) hb51
                          have hX7_51 : Below w7.heap.size w7 w51 := bstep (bstep hX7_12 hB) hb51
                          have hX10_51 : Below w10.heap.size w10 w51 := bstep (bstep hX10_12 hB) hb51
                          have hX11_51 : Below w11.heap.size w11 w51 := bstep (bstep hX11_12 hB) hb51
                          have hX12_51 : Below w12.heap.size w12 w51 := bstep hB hb51
                          have hX50_51 : Below w50.heap.size w50 w51 := hb51
                          have HU := hide hU
                          clear hU
                          have q0x := (hX50_51.cell (p := ⟨w12.heap.size, 0, none⟩) hbl).trans q0
                          have q1x := (hX50_51.cell (p := ⟨w12.heap.size, 1, none⟩) hbl).trans q1
                          have HC52 := hide (iF1 (k := 4) (sc := jc) (by omega) (unhide HFR) ((unhide HRj).below hX12_51) (unhide HC) (unhide HFC) hX2_51 (unhide HF2))
                          go_wp2_with fail
                          refine (unhide HC52).mono ?_
                          clear HC52
                          rintro e w52 ⟨va, vc, rfl, hV, hb52⟩
                          have hX1_52 : Below w1.heap.size w1 w52 := bstep hX1_51 hb52
                          have hX2_52 : Below w2.heap.size w2 w52 := bstep hX2_51 hb52
                          have hX7_52 : Below w7.heap.size w7 w52 := bstep hX7_51 hb52
                          have hX10_52 : Below w10.heap.size w10 w52 := bstep hX10_51 hb52
                          have hX11_52 : Below w11.heap.size w11 w52 := bstep hX11_51 hb52
                          have hX12_52 : Below w12.heap.size w12 w52 := bstep hX12_51 hb52
                          have hX50_52 : Below w50.heap.size w50 w52 := bstep hX50_51 hb52
                          have hX51_52 : Below w51.heap.size w51 w52 := hb52
                          have HV := hide hV
                          clear hV
                          have HC53 := hide (TrmCanon_any ua uc u w52 (by omega) (OwnC.row (OwnC.below (unhide HU) hX51_52)) (unhide HWF1))
                          go_wp2_with fail
                          refine (unhide HC53).mono ?_
                          clear HC53
                          rintro e w53 ⟨c8, rfl, hC8, hb53⟩
                          have hX1_53 : Below w1.heap.size w1 w53 := bstep hX1_52 hb53
                          have hX2_53 : Below w2.heap.size w2 w53 := bstep hX2_52 hb53
                          have hX7_53 : Below w7.heap.size w7 w53 := bstep hX7_52 hb53
                          have hX10_53 : Below w10.heap.size w10 w53 := bstep hX10_52 hb53
                          have hX11_53 : Below w11.heap.size w11 w53 := bstep hX11_52 hb53
                          have hX12_53 : Below w12.heap.size w12 w53 := bstep hX12_52 hb53
                          have hX50_53 : Below w50.heap.size w50 w53 := bstep hX50_52 hb53
                          have hX51_53 : Below w51.heap.size w51 w53 := bstep hX51_52 hb53
                          have hX52_53 : Below w52.heap.size w52 w53 := hb53
                          obtain ⟨c8a, c8c, rfl, _⟩ := OwnC.shape hC8
                          have HC8 := hide hC8
                          clear hC8
                          have HC54 := hide (TrmCanon_any va vc v w53 (by omega) (OwnC.row (OwnC.below (unhide HV) hX52_53)) (unhide HWF2))
                          go_wp2_with fail
                          refine (unhide HC54).mono ?_
                          clear HC54
                          rintro e w54 ⟨c9, rfl, hC9, hb54⟩
                          have hX1_54 : Below w1.heap.size w1 w54 := bstep hX1_53 hb54
                          have hX2_54 : Below w2.heap.size w2 w54 := bstep hX2_53 hb54
                          have hX7_54 : Below w7.heap.size w7 w54 := bstep hX7_53 hb54
                          have hX10_54 : Below w10.heap.size w10 w54 := bstep hX10_53 hb54
                          have hX11_54 : Below w11.heap.size w11 w54 := bstep hX11_53 hb54
                          have hX12_54 : Below w12.heap.size w12 w54 := bstep hX12_53 hb54
                          have hX50_54 : Below w50.heap.size w50 w54 := bstep hX50_53 hb54
                          have hX51_54 : Below w51.heap.size w51 w54 := bstep hX51_53 hb54
                          have hX52_54 : Below w52.heap.size w52 w54 := bstep hX52_53 hb54
                          have hX53_54 : Below w53.heap.size w53 w54 := hb54
                          rw [← unhide HF3] at hC9
                          obtain ⟨c9a, c9c, rfl, _⟩ := OwnC.shape hC9
                          have HC9 := hide hC9
                          clear hC9
                          have HC55 := hide (cT hcl (OwnC.below (unhide HC8) hX53_54) (unhide HC9))
                          go_wp2_with fail
                          refine (unhide HC55).mono ?_
                          clear HC55
                          rintro e w55 ⟨rfl, hb55⟩
                          have hX1_55 : Below w1.heap.size w1 w55 := bstep hX1_54 hb55
                          have hX2_55 : Below w2.heap.size w2 w55 := bstep hX2_54 hb55
                          have hX7_55 : Below w7.heap.size w7 w55 := bstep hX7_54 hb55
                          have hX10_55 : Below w10.heap.size w10 w55 := bstep hX10_54 hb55
                          have hX11_55 : Below w11.heap.size w11 w55 := bstep hX11_54 hb55
                          have hX12_55 : Below w12.heap.size w12 w55 := bstep hX12_54 hb55
                          have hX50_55 : Below w50.heap.size w50 w55 := bstep hX50_54 hb55
                          have hX51_55 : Below w51.heap.size w51 w55 := bstep hX51_54 hb55
                          have hX52_55 : Below w52.heap.size w52 w55 := bstep hX52_54 hb55
                          have hX53_55 : Below w53.heap.size w53 w55 := bstep hX53_54 hb55
                          go_wp2
                          go_roundw
                          case rel => exact ⟨2, by omega, by go_num, hX12_55, (hX50_55.cell (p := ⟨w12.heap.size, 0, none⟩) hbl).trans q0, (hX50_55.cell (p := ⟨w12.heap.size, 1, none⟩) hbl).trans q1⟩
                          case measure => simp [intOf]
                      · have hk2 : k = 2 := by omega
                        subst hk2
                        clear hk0 hk1
                        go_wp2
                        go_ret
                        exact ⟨rfl, bstep hb1 (bstep hX1_12 hB)⟩
              · by_cases hother : three = 1 ∧ four = 1
                · obtain ⟨rfl, rfl⟩ := hother
                  have hT2 := unhide HT2 rfl rfl
                  have hT3 : one = 3 ∨ (one = 1 ∧ two = 3) := by
                    rcases hT2 with e | ⟨e, e2 | ⟨e2, _⟩⟩
                    · exact .inl e
                    · exact .inr ⟨e, e2⟩
                    · exact absurd ⟨e, e2⟩ hfirst
                  clear hT2 hfirst HT1 HT2 HD2 HD4
                  rcases hT3 with rfl | ⟨rfl, rfl⟩
                  · skip
                    have HC3 := hide (sT hla (unhide HA) (unhide HFA) hb2 (unhide HTA))
                    go_wp2_with fail
                    refine (unhide HC3).mono ?_
                    clear HC3
                    rintro e w3 ⟨rfl, hb3⟩
                    have hX1_3 : Below w1.heap.size w1 w3 := bstep hb2 hb3
                    have hX2_3 : Below w2.heap.size w2 w3 := hb3
                    have HC4 := hide (sT hlb (unhide HB) (unhide HFB) hX1_3 (unhide HTB))
                    go_wp2_with fail
                    refine (unhide HC4).mono ?_
                    clear HC4
                    rintro e w4 ⟨rfl, hb4⟩
                    have hX1_4 : Below w1.heap.size w1 w4 := bstep hX1_3 hb4
                    have hX2_4 : Below w2.heap.size w2 w4 := bstep hX2_3 hb4
                    have HC5 := hide (sT hlc (unhide HC) (unhide HFC) hX2_4 (unhide HTC))
                    go_wp2_with fail
                    refine (unhide HC5).mono ?_
                    clear HC5
                    rintro e w5 ⟨rfl, hb5⟩
                    have hX1_5 : Below w1.heap.size w1 w5 := bstep hX1_4 hb5
                    have hX2_5 : Below w2.heap.size w2 w5 := bstep hX2_4 hb5
                    have HC6 := hide (sT hld (unhide HD) (unhide HFD) hX2_5 (unhide HTD))
                    go_wp2_with fail
                    refine (unhide HC6).mono ?_
                    clear HC6
                    rintro e w6 ⟨rfl, hb6⟩
                    have hX1_6 : Below w1.heap.size w1 w6 := bstep hX1_5 hb6
                    have hX2_6 : Below w2.heap.size w2 w6 := bstep hX2_5 hb6
                    have HC7 := hide (iU0 (sa := some ⟨w6.heap.size, 0, none⟩) (sc := 0) (.cells #[] 51) (unhide HA) (unhide HB) (unhide HFA) (unhide HFB) (unhide HM1) hX1_6)
                    go_wp2_with fail
                    refine (unhide HC7).mono ?_
                    clear HC7
                    rintro e w7 ⟨v7, rfl, hOo, hb7⟩
                    have hX1_7 : Below w1.heap.size w1 w7 := bstep (bstep hX1_6 (cell_below _ _)) hb7
                    have hX2_7 : Below w2.heap.size w2 w7 := bstep (bstep hX2_6 (cell_below _ _)) hb7
                    obtain ⟨oa, oc, rfl, _, _, hRo⟩ := hOo.shape
                    have HRo := hide hRo
                    clear hOo hRo
                    have HC8 := hide (sU0 (sa := some ⟨w7.heap.size, 0, none⟩) (sc := 0) (.cells #[] 51) (unhide HA) (unhide HB) hla hlb (unhide HFA) (unhide HFB) (unhide HM1) hX1_7)
                    go_wp2_with fail
                    refine (unhide HC8).mono ?_
                    clear HC8
                    rintro e w8 ⟨v8, rfl, hOm, hb8⟩
                    have hX1_8 : Below w1.heap.size w1 w8 := bstep (bstep hX1_7 (cell_below _ _)) hb8
                    have hX2_8 : Below w2.heap.size w2 w8 := bstep (bstep hX2_7 (cell_below _ _)) hb8
                    have hX7_8 : Below w7.heap.size w7 w8 := bstep (cell_below _ _) hb8
                    obtain ⟨ma, mc, rfl, _, _, hRm⟩ := hOm.shape
                    have HRm := hide hRm
                    clear hOm hRm
                    have HC9 := hide (cB (k := 2) (sc := oc) (tc := mc) (by omega) (unhide HFO) ((unhide HRo).below hX7_8) (unhide HRm))
                    go_wp2_with fail
                    refine (unhide HC9).mono ?_
                    clear HC9
                    rintro e w9 ⟨rfl, hb9⟩
                    have hX1_9 : Below w1.heap.size w1 w9 := bstep hX1_8 hb9
                    have hX2_9 : Below w2.heap.size w2 w9 := bstep hX2_8 hb9
                    have hX7_9 : Below w7.heap.size w7 w9 := bstep hX7_8 hb9
                    have HC10 := hide (iU (k := 2) (sc := oc) (by omega) (unhide HFO) ((unhide HRo).below hX7_9) (OwnC.below (unhide HC) hX2_9) (OwnC.below (unhide HD) hX2_9) (unhide HFC) (unhide HFD) (unhide HM2) (Below.refl _ w9))
                    go_wp2_with fail
                    refine (unhide HC10).mono ?_
                    clear HC10
                    rintro e w10 ⟨v10, rfl, hOk, hb10⟩
                    have hX1_10 : Below w1.heap.size w1 w10 := bstep hX1_9 hb10
                    have hX2_10 : Below w2.heap.size w2 w10 := bstep hX2_9 hb10
                    have hX7_10 : Below w7.heap.size w7 w10 := bstep hX7_9 hb10
                    obtain ⟨ka, kc, rfl, _, _, hRk⟩ := hOk.shape
                    have HRk := hide hRk
                    clear hOk hRk
                    have HC11 := hide (iU0 (sa := some ⟨w10.heap.size, 0, none⟩) (sc := 0) (.cells #[] 51) (unhide HC) (unhide HD) (unhide HFC) (unhide HFD) (unhide HM3) hX2_10)
                    go_wp2_with fail
                    refine (unhide HC11).mono ?_
                    clear HC11
                    rintro e w11 ⟨v11, rfl, hOn, hb11⟩
                    have hX1_11 : Below w1.heap.size w1 w11 := bstep (bstep hX1_10 (cell_below _ _)) hb11
                    have hX2_11 : Below w2.heap.size w2 w11 := bstep (bstep hX2_10 (cell_below _ _)) hb11
                    have hX7_11 : Below w7.heap.size w7 w11 := bstep (bstep hX7_10 (cell_below _ _)) hb11
                    have hX10_11 : Below w10.heap.size w10 w11 := bstep (cell_below _ _) hb11
                    obtain ⟨na, nc, rfl, _, _, hRn⟩ := hOn.shape
                    have HRn := hide hRn
                    clear hOn hRn
                    have HC12 := hide (iU (k := 2) (sc := nc) (by omega) (unhide HFQ) (unhide HRn) (OwnC.below (unhide HA) hX1_11) (OwnC.below (unhide HB) hX1_11) (unhide HFA) (unhide HFB) (unhide HM4) (Below.refl _ w11))
                    go_wp2_with fail
                    refine (unhide HC12).mono ?_
                    clear HC12
                    rintro e w12 ⟨v12, rfl, hOj, hb12⟩
                    have hX1_12 : Below w1.heap.size w1 w12 := bstep hX1_11 hb12
                    have hX2_12 : Below w2.heap.size w2 w12 := bstep hX2_11 hb12
                    have hX7_12 : Below w7.heap.size w7 w12 := bstep hX7_11 hb12
                    have hX10_12 : Below w10.heap.size w10 w12 := bstep hX10_11 hb12
                    have hX11_12 : Below w11.heap.size w11 w12 := hb12
                    obtain ⟨ja, jc, rfl, _, _, hRj⟩ := hOj.shape
                    have HRj := hide hRj
                    clear hOj hRj
                    go_wp2
                    go_ret
                    exact ⟨rfl, bstep hb1 hX1_12⟩
                  · skip
                    have HC3 := hide (sT hla (unhide HA) (unhide HFA) hb2 (unhide HTA))
                    go_wp2_with fail
                    refine (unhide HC3).mono ?_
                    clear HC3
                    rintro e w3 ⟨rfl, hb3⟩
                    have hX1_3 : Below w1.heap.size w1 w3 := bstep hb2 hb3
                    have hX2_3 : Below w2.heap.size w2 w3 := hb3
                    have HC4 := hide (sT hlb (unhide HB) (unhide HFB) hX1_3 (unhide HTB))
                    go_wp2_with fail
                    refine (unhide HC4).mono ?_
                    clear HC4
                    rintro e w4 ⟨rfl, hb4⟩
                    have hX1_4 : Below w1.heap.size w1 w4 := bstep hX1_3 hb4
                    have hX2_4 : Below w2.heap.size w2 w4 := bstep hX2_3 hb4
                    have HC5 := hide (sT hlc (unhide HC) (unhide HFC) hX2_4 (unhide HTC))
                    go_wp2_with fail
                    refine (unhide HC5).mono ?_
                    clear HC5
                    rintro e w5 ⟨rfl, hb5⟩
                    have hX1_5 : Below w1.heap.size w1 w5 := bstep hX1_4 hb5
                    have hX2_5 : Below w2.heap.size w2 w5 := bstep hX2_4 hb5
                    have HC6 := hide (sT hld (unhide HD) (unhide HFD) hX2_5 (unhide HTD))
                    go_wp2_with fail
                    refine (unhide HC6).mono ?_
                    clear HC6
                    rintro e w6 ⟨rfl, hb6⟩
                    have hX1_6 : Below w1.heap.size w1 w6 := bstep hX1_5 hb6
                    have hX2_6 : Below w2.heap.size w2 w6 := bstep hX2_5 hb6
                    have HC7 := hide (iU0 (sa := some ⟨w6.heap.size, 0, none⟩) (sc := 0) (.cells #[] 51) (unhide HA) (unhide HB) (unhide HFA) (unhide HFB) (unhide HM1) hX1_6)
                    go_wp2_with fail
                    refine (unhide HC7).mono ?_
                    clear HC7
                    rintro e w7 ⟨v7, rfl, hOo, hb7⟩
                    have hX1_7 : Below w1.heap.size w1 w7 := bstep (bstep hX1_6 (cell_below _ _)) hb7
                    have hX2_7 : Below w2.heap.size w2 w7 := bstep (bstep hX2_6 (cell_below _ _)) hb7
                    obtain ⟨oa, oc, rfl, _, _, hRo⟩ := hOo.shape
                    have HRo := hide hRo
                    clear hOo hRo
                    have HC8 := hide (sU0 (sa := some ⟨w7.heap.size, 0, none⟩) (sc := 0) (.cells #[] 51) (unhide HA) (unhide HB) hla hlb (unhide HFA) (unhide HFB) (unhide HM1) hX1_7)
                    go_wp2_with fail
                    refine (unhide HC8).mono ?_
                    clear HC8
                    rintro e w8 ⟨v8, rfl, hOm, hb8⟩
                    have hX1_8 : Below w1.heap.size w1 w8 := bstep (bstep hX1_7 (cell_below _ _)) hb8
                    have hX2_8 : Below w2.heap.size w2 w8 := bstep (bstep hX2_7 (cell_below _ _)) hb8
                    have hX7_8 : Below w7.heap.size w7 w8 := bstep (cell_below _ _) hb8
                    obtain ⟨ma, mc, rfl, _, _, hRm⟩ := hOm.shape
                    have HRm := hide hRm
                    clear hOm hRm
                    have HC9 := hide (cB (k := 2) (sc := oc) (tc := mc) (by omega) (unhide HFO) ((unhide HRo).below hX7_8) (unhide HRm))
                    go_wp2_with fail
                    refine (unhide HC9).mono ?_
                    clear HC9
                    rintro e w9 ⟨rfl, hb9⟩
                    have hX1_9 : Below w1.heap.size w1 w9 := bstep hX1_8 hb9
                    have hX2_9 : Below w2.heap.size w2 w9 := bstep hX2_8 hb9
                    have hX7_9 : Below w7.heap.size w7 w9 := bstep hX7_8 hb9
                    have HC10 := hide (iU (k := 2) (sc := oc) (by omega) (unhide HFO) ((unhide HRo).below hX7_9) (OwnC.below (unhide HC) hX2_9) (OwnC.below (unhide HD) hX2_9) (unhide HFC) (unhide HFD) (unhide HM2) (Below.refl _ w9))
                    go_wp2_with fail
                    refine (unhide HC10).mono ?_
                    clear HC10
                    rintro e w10 ⟨v10, rfl, hOk, hb10⟩
                    have hX1_10 : Below w1.heap.size w1 w10 := bstep hX1_9 hb10
                    have hX2_10 : Below w2.heap.size w2 w10 := bstep hX2_9 hb10
                    have hX7_10 : Below w7.heap.size w7 w10 := bstep hX7_9 hb10
                    obtain ⟨ka, kc, rfl, _, _, hRk⟩ := hOk.shape
                    have HRk := hide hRk
                    clear hOk hRk
                    have HC11 := hide (iU0 (sa := some ⟨w10.heap.size, 0, none⟩) (sc := 0) (.cells #[] 51) (unhide HC) (unhide HD) (unhide HFC) (unhide HFD) (unhide HM3) hX2_10)
                    go_wp2_with fail
                    refine (unhide HC11).mono ?_
                    clear HC11
                    rintro e w11 ⟨v11, rfl, hOn, hb11⟩
                    have hX1_11 : Below w1.heap.size w1 w11 := bstep (bstep hX1_10 (cell_below _ _)) hb11
                    have hX2_11 : Below w2.heap.size w2 w11 := bstep (bstep hX2_10 (cell_below _ _)) hb11
                    have hX7_11 : Below w7.heap.size w7 w11 := bstep (bstep hX7_10 (cell_below _ _)) hb11
                    have hX10_11 : Below w10.heap.size w10 w11 := bstep (cell_below _ _) hb11
                    obtain ⟨na, nc, rfl, _, _, hRn⟩ := hOn.shape
                    have HRn := hide hRn
                    clear hOn hRn
                    have HC12 := hide (iU (k := 2) (sc := nc) (by omega) (unhide HFQ) (unhide HRn) (OwnC.below (unhide HA) hX1_11) (OwnC.below (unhide HB) hX1_11) (unhide HFA) (unhide HFB) (unhide HM4) (Below.refl _ w11))
                    go_wp2_with fail
                    refine (unhide HC12).mono ?_
                    clear HC12
                    rintro e w12 ⟨v12, rfl, hOj, hb12⟩
                    have hX1_12 : Below w1.heap.size w1 w12 := bstep hX1_11 hb12
                    have hX2_12 : Below w2.heap.size w2 w12 := bstep hX2_11 hb12
                    have hX7_12 : Below w7.heap.size w7 w12 := bstep hX7_11 hb12
                    have hX10_12 : Below w10.heap.size w10 w12 := bstep hX10_11 hb12
                    have hX11_12 : Below w11.heap.size w11 w12 := hb12
                    obtain ⟨ja, jc, rfl, _, _, hRj⟩ := hOj.shape
                    have HRj := hide hRj
                    clear hOj hRj
                    go_wp2
                    go_ret
                    exact ⟨rfl, bstep hb1 hX1_12⟩
                · clear HT1 HT2 HD2 HD4
                  by_cases e1 : one = 1
                  · have e2 : two ≠ 1 := fun e => hfirst ⟨e1, e⟩
                    subst e1
                    have e2b : (two == 1) = false := by simpa using e2
                    clear hfirst e2
                    by_cases e3 : three = 1
                    · have e4 : four ≠ 1 := fun e => hother ⟨e3, e⟩
                      subst e3
                      have e4b : (four == 1) = false := by simpa using e4
                      clear hother e4
                      have HC3 := hide (sT hla (unhide HA) (unhide HFA) hb2 (unhide HTA))
                      go_wp2_with fail
                      refine (unhide HC3).mono ?_
                      clear HC3
                      rintro e w3 ⟨rfl, hb3⟩
                      have hX1_3 : Below w1.heap.size w1 w3 := bstep hb2 hb3
                      have hX2_3 : Below w2.heap.size w2 w3 := hb3
                      have HC4 := hide (sT hlb (unhide HB) (unhide HFB) hX1_3 (unhide HTB))
                      go_wp2_with fail
                      refine (unhide HC4).mono ?_
                      clear HC4
                      rintro e w4 ⟨rfl, hb4⟩
                      have hX1_4 : Below w1.heap.size w1 w4 := bstep hX1_3 hb4
                      have hX2_4 : Below w2.heap.size w2 w4 := bstep hX2_3 hb4
                      have HC5 := hide (sT hlc (unhide HC) (unhide HFC) hX2_4 (unhide HTC))
                      go_wp2_with fail
                      refine (unhide HC5).mono ?_
                      clear HC5
                      rintro e w5 ⟨rfl, hb5⟩
                      have hX1_5 : Below w1.heap.size w1 w5 := bstep hX1_4 hb5
                      have hX2_5 : Below w2.heap.size w2 w5 := bstep hX2_4 hb5
                      have HC6 := hide (sT hld (unhide HD) (unhide HFD) hX2_5 (unhide HTD))
                      go_wp2_with fail
                      refine (unhide HC6).mono ?_
                      clear HC6
                      rintro e w6 ⟨rfl, hb6⟩
                      have hX1_6 : Below w1.heap.size w1 w6 := bstep hX1_5 hb6
                      have hX2_6 : Below w2.heap.size w2 w6 := bstep hX2_5 hb6
                      have HC7 := hide (iU0 (sa := some ⟨w6.heap.size, 0, none⟩) (sc := 0) (.cells #[] 51) (unhide HA) (unhide HB) (unhide HFA) (unhide HFB) (unhide HM1) hX1_6)
                      go_wp2_with fail
                      refine (unhide HC7).mono ?_
                      clear HC7
                      rintro e w7 ⟨v7, rfl, hOo, hb7⟩
                      have hX1_7 : Below w1.heap.size w1 w7 := bstep (bstep hX1_6 (cell_below _ _)) hb7
                      have hX2_7 : Below w2.heap.size w2 w7 := bstep (bstep hX2_6 (cell_below _ _)) hb7
                      obtain ⟨oa, oc, rfl, _, _, hRo⟩ := hOo.shape
                      have HRo := hide hRo
                      clear hOo hRo
                      have HC8 := hide (sU0 (sa := some ⟨w7.heap.size, 0, none⟩) (sc := 0) (.cells #[] 51) (unhide HA) (unhide HB) hla hlb (unhide HFA) (unhide HFB) (unhide HM1) hX1_7)
                      go_wp2_with fail
                      refine (unhide HC8).mono ?_
                      clear HC8
                      rintro e w8 ⟨v8, rfl, hOm, hb8⟩
                      have hX1_8 : Below w1.heap.size w1 w8 := bstep (bstep hX1_7 (cell_below _ _)) hb8
                      have hX2_8 : Below w2.heap.size w2 w8 := bstep (bstep hX2_7 (cell_below _ _)) hb8
                      have hX7_8 : Below w7.heap.size w7 w8 := bstep (cell_below _ _) hb8
                      obtain ⟨ma, mc, rfl, _, _, hRm⟩ := hOm.shape
                      have HRm := hide hRm
                      clear hOm hRm
                      have HC9 := hide (cB (k := 2) (sc := oc) (tc := mc) (by omega) (unhide HFO) ((unhide HRo).below hX7_8) (unhide HRm))
                      go_wp2_with fail
                      refine (unhide HC9).mono ?_
                      clear HC9
                      rintro e w9 ⟨rfl, hb9⟩
                      have hX1_9 : Below w1.heap.size w1 w9 := bstep hX1_8 hb9
                      have hX2_9 : Below w2.heap.size w2 w9 := bstep hX2_8 hb9
                      have hX7_9 : Below w7.heap.size w7 w9 := bstep hX7_8 hb9
                      have HC10 := hide (iU (k := 2) (sc := oc) (by omega) (unhide HFO) ((unhide HRo).below hX7_9) (OwnC.below (unhide HC) hX2_9) (OwnC.below (unhide HD) hX2_9) (unhide HFC) (unhide HFD) (unhide HM2) (Below.refl _ w9))
                      go_wp2_with fail
                      refine (unhide HC10).mono ?_
                      clear HC10
                      rintro e w10 ⟨v10, rfl, hOk, hb10⟩
                      have hX1_10 : Below w1.heap.size w1 w10 := bstep hX1_9 hb10
                      have hX2_10 : Below w2.heap.size w2 w10 := bstep hX2_9 hb10
                      have hX7_10 : Below w7.heap.size w7 w10 := bstep hX7_9 hb10
                      obtain ⟨ka, kc, rfl, _, _, hRk⟩ := hOk.shape
                      have HRk := hide hRk
                      clear hOk hRk
                      have HC11 := hide (iU0 (sa := some ⟨w10.heap.size, 0, none⟩) (sc := 0) (.cells #[] 51) (unhide HC) (unhide HD) (unhide HFC) (unhide HFD) (unhide HM3) hX2_10)
                      go_wp2_with fail
                      refine (unhide HC11).mono ?_
                      clear HC11
                      rintro e w11 ⟨v11, rfl, hOn, hb11⟩
                      have hX1_11 : Below w1.heap.size w1 w11 := bstep (bstep hX1_10 (cell_below _ _)) hb11
                      have hX2_11 : Below w2.heap.size w2 w11 := bstep (bstep hX2_10 (cell_below _ _)) hb11
                      have hX7_11 : Below w7.heap.size w7 w11 := bstep (bstep hX7_10 (cell_below _ _)) hb11
                      have hX10_11 : Below w10.heap.size w10 w11 := bstep (cell_below _ _) hb11
                      obtain ⟨na, nc, rfl, _, _, hRn⟩ := hOn.shape
                      have HRn := hide hRn
                      clear hOn hRn
                      have HC12 := hide (iU (k := 2) (sc := nc) (by omega) (unhide HFQ) (unhide HRn) (OwnC.below (unhide HA) hX1_11) (OwnC.below (unhide HB) hX1_11) (unhide HFA) (unhide HFB) (unhide HM4) (Below.refl _ w11))
                      go_wp2_with fail
                      refine (unhide HC12).mono ?_
                      clear HC12
                      rintro e w12 ⟨v12, rfl, hOj, hb12⟩
                      have hX1_12 : Below w1.heap.size w1 w12 := bstep hX1_11 hb12
                      have hX2_12 : Below w2.heap.size w2 w12 := bstep hX2_11 hb12
                      have hX7_12 : Below w7.heap.size w7 w12 := bstep hX7_11 hb12
                      have hX10_12 : Below w10.heap.size w10 w12 := bstep hX10_11 hb12
                      have hX11_12 : Below w11.heap.size w11 w12 := hb12
                      obtain ⟨ja, jc, rfl, _, _, hRj⟩ := hOj.shape
                      have HRj := hide hRj
                      clear hOj hRj
                      go_wp2
                      go_ret
                      exact ⟨rfl, bstep hb1 hX1_12⟩
                    · have e3b : (three == 1) = false := by simpa using e3
                      clear hother e3
                      have HC3 := hide (sT hla (unhide HA) (unhide HFA) hb2 (unhide HTA))
                      go_wp2_with fail
                      refine (unhide HC3).mono ?_
                      clear HC3
                      rintro e w3 ⟨rfl, hb3⟩
                      have hX1_3 : Below w1.heap.size w1 w3 := bstep hb2 hb3
                      have hX2_3 : Below w2.heap.size w2 w3 := hb3
                      have HC4 := hide (sT hlb (unhide HB) (unhide HFB) hX1_3 (unhide HTB))
                      go_wp2_with fail
                      refine (unhide HC4).mono ?_
                      clear HC4
                      rintro e w4 ⟨rfl, hb4⟩
                      have hX1_4 : Below w1.heap.size w1 w4 := bstep hX1_3 hb4
                      have hX2_4 : Below w2.heap.size w2 w4 := bstep hX2_3 hb4
                      have HC5 := hide (sT hlc (unhide HC) (unhide HFC) hX2_4 (unhide HTC))
                      go_wp2_with fail
                      refine (unhide HC5).mono ?_
                      clear HC5
                      rintro e w5 ⟨rfl, hb5⟩
                      have hX1_5 : Below w1.heap.size w1 w5 := bstep hX1_4 hb5
                      have hX2_5 : Below w2.heap.size w2 w5 := bstep hX2_4 hb5
                      have HC6 := hide (sT hld (unhide HD) (unhide HFD) hX2_5 (unhide HTD))
                      go_wp2_with fail
                      refine (unhide HC6).mono ?_
                      clear HC6
                      rintro e w6 ⟨rfl, hb6⟩
                      have hX1_6 : Below w1.heap.size w1 w6 := bstep hX1_5 hb6
                      have hX2_6 : Below w2.heap.size w2 w6 := bstep hX2_5 hb6
                      have HC7 := hide (iU0 (sa := some ⟨w6.heap.size, 0, none⟩) (sc := 0) (.cells #[] 51) (unhide HA) (unhide HB) (unhide HFA) (unhide HFB) (unhide HM1) hX1_6)
                      go_wp2_with fail
                      refine (unhide HC7).mono ?_
                      clear HC7
                      rintro e w7 ⟨v7, rfl, hOo, hb7⟩
                      have hX1_7 : Below w1.heap.size w1 w7 := bstep (bstep hX1_6 (cell_below _ _)) hb7
                      have hX2_7 : Below w2.heap.size w2 w7 := bstep (bstep hX2_6 (cell_below _ _)) hb7
                      obtain ⟨oa, oc, rfl, _, _, hRo⟩ := hOo.shape
                      have HRo := hide hRo
                      clear hOo hRo
                      have HC8 := hide (sU0 (sa := some ⟨w7.heap.size, 0, none⟩) (sc := 0) (.cells #[] 51) (unhide HA) (unhide HB) hla hlb (unhide HFA) (unhide HFB) (unhide HM1) hX1_7)
                      go_wp2_with fail
                      refine (unhide HC8).mono ?_
                      clear HC8
                      rintro e w8 ⟨v8, rfl, hOm, hb8⟩
                      have hX1_8 : Below w1.heap.size w1 w8 := bstep (bstep hX1_7 (cell_below _ _)) hb8
                      have hX2_8 : Below w2.heap.size w2 w8 := bstep (bstep hX2_7 (cell_below _ _)) hb8
                      have hX7_8 : Below w7.heap.size w7 w8 := bstep (cell_below _ _) hb8
                      obtain ⟨ma, mc, rfl, _, _, hRm⟩ := hOm.shape
                      have HRm := hide hRm
                      clear hOm hRm
                      have HC9 := hide (cB (k := 2) (sc := oc) (tc := mc) (by omega) (unhide HFO) ((unhide HRo).below hX7_8) (unhide HRm))
                      go_wp2_with fail
                      refine (unhide HC9).mono ?_
                      clear HC9
                      rintro e w9 ⟨rfl, hb9⟩
                      have hX1_9 : Below w1.heap.size w1 w9 := bstep hX1_8 hb9
                      have hX2_9 : Below w2.heap.size w2 w9 := bstep hX2_8 hb9
                      have hX7_9 : Below w7.heap.size w7 w9 := bstep hX7_8 hb9
                      have HC10 := hide (iU (k := 2) (sc := oc) (by omega) (unhide HFO) ((unhide HRo).below hX7_9) (OwnC.below (unhide HC) hX2_9) (OwnC.below (unhide HD) hX2_9) (unhide HFC) (unhide HFD) (unhide HM2) (Below.refl _ w9))
                      go_wp2_with fail
                      refine (unhide HC10).mono ?_
                      clear HC10
                      rintro e w10 ⟨v10, rfl, hOk, hb10⟩
                      have hX1_10 : Below w1.heap.size w1 w10 := bstep hX1_9 hb10
                      have hX2_10 : Below w2.heap.size w2 w10 := bstep hX2_9 hb10
                      have hX7_10 : Below w7.heap.size w7 w10 := bstep hX7_9 hb10
                      obtain ⟨ka, kc, rfl, _, _, hRk⟩ := hOk.shape
                      have HRk := hide hRk
                      clear hOk hRk
                      have HC11 := hide (iU0 (sa := some ⟨w10.heap.size, 0, none⟩) (sc := 0) (.cells #[] 51) (unhide HC) (unhide HD) (unhide HFC) (unhide HFD) (unhide HM3) hX2_10)
                      go_wp2_with fail
                      refine (unhide HC11).mono ?_
                      clear HC11
                      rintro e w11 ⟨v11, rfl, hOn, hb11⟩
                      have hX1_11 : Below w1.heap.size w1 w11 := bstep (bstep hX1_10 (cell_below _ _)) hb11
                      have hX2_11 : Below w2.heap.size w2 w11 := bstep (bstep hX2_10 (cell_below _ _)) hb11
                      have hX7_11 : Below w7.heap.size w7 w11 := bstep (bstep hX7_10 (cell_below _ _)) hb11
                      have hX10_11 : Below w10.heap.size w10 w11 := bstep (cell_below _ _) hb11
                      obtain ⟨na, nc, rfl, _, _, hRn⟩ := hOn.shape
                      have HRn := hide hRn
                      clear hOn hRn
                      have HC12 := hide (iU (k := 2) (sc := nc) (by omega) (unhide HFQ) (unhide HRn) (OwnC.below (unhide HA) hX1_11) (OwnC.below (unhide HB) hX1_11) (unhide HFA) (unhide HFB) (unhide HM4) (Below.refl _ w11))
                      go_wp2_with fail
                      refine (unhide HC12).mono ?_
                      clear HC12
                      rintro e w12 ⟨v12, rfl, hOj, hb12⟩
                      have hX1_12 : Below w1.heap.size w1 w12 := bstep hX1_11 hb12
                      have hX2_12 : Below w2.heap.size w2 w12 := bstep hX2_11 hb12
                      have hX7_12 : Below w7.heap.size w7 w12 := bstep hX7_11 hb12
                      have hX10_12 : Below w10.heap.size w10 w12 := bstep hX10_11 hb12
                      have hX11_12 : Below w11.heap.size w11 w12 := hb12
                      obtain ⟨ja, jc, rfl, _, _, hRj⟩ := hOj.shape
                      have HRj := hide hRj
                      clear hOj hRj
                      go_wp2
                      go_ret
                      exact ⟨rfl, bstep hb1 hX1_12⟩
                  · have e1b : (one == 1) = false := by simpa using e1
                    clear hfirst e1
                    by_cases e3 : three = 1
                    · have e4 : four ≠ 1 := fun e => hother ⟨e3, e⟩
                      subst e3
                      have e4b : (four == 1) = false := by simpa using e4
                      clear hother e4
                      have HC3 := hide (sT hla (unhide HA) (unhide HFA) hb2 (unhide HTA))
                      go_wp2_with fail
                      refine (unhide HC3).mono ?_
                      clear HC3
                      rintro e w3 ⟨rfl, hb3⟩
                      have hX1_3 : Below w1.heap.size w1 w3 := bstep hb2 hb3
                      have hX2_3 : Below w2.heap.size w2 w3 := hb3
                      have HC4 := hide (sT hlb (unhide HB) (unhide HFB) hX1_3 (unhide HTB))
                      go_wp2_with fail
                      refine (unhide HC4).mono ?_
                      clear HC4
                      rintro e w4 ⟨rfl, hb4⟩
                      have hX1_4 : Below w1.heap.size w1 w4 := bstep hX1_3 hb4
                      have hX2_4 : Below w2.heap.size w2 w4 := bstep hX2_3 hb4
                      have HC5 := hide (sT hlc (unhide HC) (unhide HFC) hX2_4 (unhide HTC))
                      go_wp2_with fail
                      refine (unhide HC5).mono ?_
                      clear HC5
                      rintro e w5 ⟨rfl, hb5⟩
                      have hX1_5 : Below w1.heap.size w1 w5 := bstep hX1_4 hb5
                      have hX2_5 : Below w2.heap.size w2 w5 := bstep hX2_4 hb5
                      have HC6 := hide (sT hld (unhide HD) (unhide HFD) hX2_5 (unhide HTD))
                      go_wp2_with fail
                      refine (unhide HC6).mono ?_
                      clear HC6
                      rintro e w6 ⟨rfl, hb6⟩
                      have hX1_6 : Below w1.heap.size w1 w6 := bstep hX1_5 hb6
                      have hX2_6 : Below w2.heap.size w2 w6 := bstep hX2_5 hb6
                      have HC7 := hide (iU0 (sa := some ⟨w6.heap.size, 0, none⟩) (sc := 0) (.cells #[] 51) (unhide HA) (unhide HB) (unhide HFA) (unhide HFB) (unhide HM1) hX1_6)
                      go_wp2_with fail
                      refine (unhide HC7).mono ?_
                      clear HC7
                      rintro e w7 ⟨v7, rfl, hOo, hb7⟩
                      have hX1_7 : Below w1.heap.size w1 w7 := bstep (bstep hX1_6 (cell_below _ _)) hb7
                      have hX2_7 : Below w2.heap.size w2 w7 := bstep (bstep hX2_6 (cell_below _ _)) hb7
                      obtain ⟨oa, oc, rfl, _, _, hRo⟩ := hOo.shape
                      have HRo := hide hRo
                      clear hOo hRo
                      have HC8 := hide (sU0 (sa := some ⟨w7.heap.size, 0, none⟩) (sc := 0) (.cells #[] 51) (unhide HA) (unhide HB) hla hlb (unhide HFA) (unhide HFB) (unhide HM1) hX1_7)
                      go_wp2_with fail
                      refine (unhide HC8).mono ?_
                      clear HC8
                      rintro e w8 ⟨v8, rfl, hOm, hb8⟩
                      have hX1_8 : Below w1.heap.size w1 w8 := bstep (bstep hX1_7 (cell_below _ _)) hb8
                      have hX2_8 : Below w2.heap.size w2 w8 := bstep (bstep hX2_7 (cell_below _ _)) hb8
                      have hX7_8 : Below w7.heap.size w7 w8 := bstep (cell_below _ _) hb8
                      obtain ⟨ma, mc, rfl, _, _, hRm⟩ := hOm.shape
                      have HRm := hide hRm
                      clear hOm hRm
                      have HC9 := hide (cB (k := 2) (sc := oc) (tc := mc) (by omega) (unhide HFO) ((unhide HRo).below hX7_8) (unhide HRm))
                      go_wp2_with fail
                      refine (unhide HC9).mono ?_
                      clear HC9
                      rintro e w9 ⟨rfl, hb9⟩
                      have hX1_9 : Below w1.heap.size w1 w9 := bstep hX1_8 hb9
                      have hX2_9 : Below w2.heap.size w2 w9 := bstep hX2_8 hb9
                      have hX7_9 : Below w7.heap.size w7 w9 := bstep hX7_8 hb9
                      have HC10 := hide (iU (k := 2) (sc := oc) (by omega) (unhide HFO) ((unhide HRo).below hX7_9) (OwnC.below (unhide HC) hX2_9) (OwnC.below (unhide HD) hX2_9) (unhide HFC) (unhide HFD) (unhide HM2) (Below.refl _ w9))
                      go_wp2_with fail
                      refine (unhide HC10).mono ?_
                      clear HC10
                      rintro e w10 ⟨v10, rfl, hOk, hb10⟩
                      have hX1_10 : Below w1.heap.size w1 w10 := bstep hX1_9 hb10
                      have hX2_10 : Below w2.heap.size w2 w10 := bstep hX2_9 hb10
                      have hX7_10 : Below w7.heap.size w7 w10 := bstep hX7_9 hb10
                      obtain ⟨ka, kc, rfl, _, _, hRk⟩ := hOk.shape
                      have HRk := hide hRk
                      clear hOk hRk
                      have HC11 := hide (iU0 (sa := some ⟨w10.heap.size, 0, none⟩) (sc := 0) (.cells #[] 51) (unhide HC) (unhide HD) (unhide HFC) (unhide HFD) (unhide HM3) hX2_10)
                      go_wp2_with fail
                      refine (unhide HC11).mono ?_
                      clear HC11
                      rintro e w11 ⟨v11, rfl, hOn, hb11⟩
                      have hX1_11 : Below w1.heap.size w1 w11 := bstep (bstep hX1_10 (cell_below _ _)) hb11
                      have hX2_11 : Below w2.heap.size w2 w11 := bstep (bstep hX2_10 (cell_below _ _)) hb11
                      have hX7_11 : Below w7.heap.size w7 w11 := bstep (bstep hX7_10 (cell_below _ _)) hb11
                      have hX10_11 : Below w10.heap.size w10 w11 := bstep (cell_below _ _) hb11
                      obtain ⟨na, nc, rfl, _, _, hRn⟩ := hOn.shape
                      have HRn := hide hRn
                      clear hOn hRn
                      have HC12 := hide (iU (k := 2) (sc := nc) (by omega) (unhide HFQ) (unhide HRn) (OwnC.below (unhide HA) hX1_11) (OwnC.below (unhide HB) hX1_11) (unhide HFA) (unhide HFB) (unhide HM4) (Below.refl _ w11))
                      go_wp2_with fail
                      refine (unhide HC12).mono ?_
                      clear HC12
                      rintro e w12 ⟨v12, rfl, hOj, hb12⟩
                      have hX1_12 : Below w1.heap.size w1 w12 := bstep hX1_11 hb12
                      have hX2_12 : Below w2.heap.size w2 w12 := bstep hX2_11 hb12
                      have hX7_12 : Below w7.heap.size w7 w12 := bstep hX7_11 hb12
                      have hX10_12 : Below w10.heap.size w10 w12 := bstep hX10_11 hb12
                      have hX11_12 : Below w11.heap.size w11 w12 := hb12
                      obtain ⟨ja, jc, rfl, _, _, hRj⟩ := hOj.shape
                      have HRj := hide hRj
                      clear hOj hRj
                      go_wp2
                      go_ret
                      exact ⟨rfl, bstep hb1 hX1_12⟩
                    · have e3b : (three == 1) = false := by simpa using e3
                      clear hother e3
                      have HC3 := hide (sT hla (unhide HA) (unhide HFA) hb2 (unhide HTA))
                      go_wp2_with fail
                      refine (unhide HC3).mono ?_
                      clear HC3
                      rintro e w3 ⟨rfl, hb3⟩
                      have hX1_3 : Below w1.heap.size w1 w3 := bstep hb2 hb3
                      have hX2_3 : Below w2.heap.size w2 w3 := hb3
                      have HC4 := hide (sT hlb (unhide HB) (unhide HFB) hX1_3 (unhide HTB))
                      go_wp2_with fail
                      refine (unhide HC4).mono ?_
                      clear HC4
                      rintro e w4 ⟨rfl, hb4⟩
                      have hX1_4 : Below w1.heap.size w1 w4 := bstep hX1_3 hb4
                      have hX2_4 : Below w2.heap.size w2 w4 := bstep hX2_3 hb4
                      have HC5 := hide (sT hlc (unhide HC) (unhide HFC) hX2_4 (unhide HTC))
                      go_wp2_with fail
                      refine (unhide HC5).mono ?_
                      clear HC5
                      rintro e w5 ⟨rfl, hb5⟩
                      have hX1_5 : Below w1.heap.size w1 w5 := bstep hX1_4 hb5
                      have hX2_5 : Below w2.heap.size w2 w5 := bstep hX2_4 hb5
                      have HC6 := hide (sT hld (unhide HD) (unhide HFD) hX2_5 (unhide HTD))
                      go_wp2_with fail
                      refine (unhide HC6).mono ?_
                      clear HC6
                      rintro e w6 ⟨rfl, hb6⟩
                      have hX1_6 : Below w1.heap.size w1 w6 := bstep hX1_5 hb6
                      have hX2_6 : Below w2.heap.size w2 w6 := bstep hX2_5 hb6
                      have HC7 := hide (iU0 (sa := some ⟨w6.heap.size, 0, none⟩) (sc := 0) (.cells #[] 51) (unhide HA) (unhide HB) (unhide HFA) (unhide HFB) (unhide HM1) hX1_6)
                      go_wp2_with fail
                      refine (unhide HC7).mono ?_
                      clear HC7
                      rintro e w7 ⟨v7, rfl, hOo, hb7⟩
                      have hX1_7 : Below w1.heap.size w1 w7 := bstep (bstep hX1_6 (cell_below _ _)) hb7
                      have hX2_7 : Below w2.heap.size w2 w7 := bstep (bstep hX2_6 (cell_below _ _)) hb7
                      obtain ⟨oa, oc, rfl, _, _, hRo⟩ := hOo.shape
                      have HRo := hide hRo
                      clear hOo hRo
                      have HC8 := hide (sU0 (sa := some ⟨w7.heap.size, 0, none⟩) (sc := 0) (.cells #[] 51) (unhide HA) (unhide HB) hla hlb (unhide HFA) (unhide HFB) (unhide HM1) hX1_7)
                      go_wp2_with fail
                      refine (unhide HC8).mono ?_
                      clear HC8
                      rintro e w8 ⟨v8, rfl, hOm, hb8⟩
                      have hX1_8 : Below w1.heap.size w1 w8 := bstep (bstep hX1_7 (cell_below _ _)) hb8
                      have hX2_8 : Below w2.heap.size w2 w8 := bstep (bstep hX2_7 (cell_below _ _)) hb8
                      have hX7_8 : Below w7.heap.size w7 w8 := bstep (cell_below _ _) hb8
                      obtain ⟨ma, mc, rfl, _, _, hRm⟩ := hOm.shape
                      have HRm := hide hRm
                      clear hOm hRm
                      have HC9 := hide (cB (k := 2) (sc := oc) (tc := mc) (by omega) (unhide HFO) ((unhide HRo).below hX7_8) (unhide HRm))
                      go_wp2_with fail
                      refine (unhide HC9).mono ?_
                      clear HC9
                      rintro e w9 ⟨rfl, hb9⟩
                      have hX1_9 : Below w1.heap.size w1 w9 := bstep hX1_8 hb9
                      have hX2_9 : Below w2.heap.size w2 w9 := bstep hX2_8 hb9
                      have hX7_9 : Below w7.heap.size w7 w9 := bstep hX7_8 hb9
                      have HC10 := hide (iU (k := 2) (sc := oc) (by omega) (unhide HFO) ((unhide HRo).below hX7_9) (OwnC.below (unhide HC) hX2_9) (OwnC.below (unhide HD) hX2_9) (unhide HFC) (unhide HFD) (unhide HM2) (Below.refl _ w9))
                      go_wp2_with fail
                      refine (unhide HC10).mono ?_
                      clear HC10
                      rintro e w10 ⟨v10, rfl, hOk, hb10⟩
                      have hX1_10 : Below w1.heap.size w1 w10 := bstep hX1_9 hb10
                      have hX2_10 : Below w2.heap.size w2 w10 := bstep hX2_9 hb10
                      have hX7_10 : Below w7.heap.size w7 w10 := bstep hX7_9 hb10
                      obtain ⟨ka, kc, rfl, _, _, hRk⟩ := hOk.shape
                      have HRk := hide hRk
                      clear hOk hRk
                      have HC11 := hide (iU0 (sa := some ⟨w10.heap.size, 0, none⟩) (sc := 0) (.cells #[] 51) (unhide HC) (unhide HD) (unhide HFC) (unhide HFD) (unhide HM3) hX2_10)
                      go_wp2_with fail
                      refine (unhide HC11).mono ?_
                      clear HC11
                      rintro e w11 ⟨v11, rfl, hOn, hb11⟩
                      have hX1_11 : Below w1.heap.size w1 w11 := bstep (bstep hX1_10 (cell_below _ _)) hb11
                      have hX2_11 : Below w2.heap.size w2 w11 := bstep (bstep hX2_10 (cell_below _ _)) hb11
                      have hX7_11 : Below w7.heap.size w7 w11 := bstep (bstep hX7_10 (cell_below _ _)) hb11
                      have hX10_11 : Below w10.heap.size w10 w11 := bstep (cell_below _ _) hb11
                      obtain ⟨na, nc, rfl, _, _, hRn⟩ := hOn.shape
                      have HRn := hide hRn
                      clear hOn hRn
                      have HC12 := hide (iU (k := 2) (sc := nc) (by omega) (unhide HFQ) (unhide HRn) (OwnC.below (unhide HA) hX1_11) (OwnC.below (unhide HB) hX1_11) (unhide HFA) (unhide HFB) (unhide HM4) (Below.refl _ w11))
                      go_wp2_with fail
                      refine (unhide HC12).mono ?_
                      clear HC12
                      rintro e w12 ⟨v12, rfl, hOj, hb12⟩
                      have hX1_12 : Below w1.heap.size w1 w12 := bstep hX1_11 hb12
                      have hX2_12 : Below w2.heap.size w2 w12 := bstep hX2_11 hb12
                      have hX7_12 : Below w7.heap.size w7 w12 := bstep hX7_11 hb12
                      have hX10_12 : Below w10.heap.size w10 w12 := bstep hX10_11 hb12
                      have hX11_12 : Below w11.heap.size w11 w12 := hb12
                      obtain ⟨ja, jc, rfl, _, _, hRj⟩ := hOj.shape
                      have HRj := hide hRj
                      clear hOj hRj
                      go_wp2
                      go_ret
                      exact ⟨rfl, bstep hb1 hX1_12⟩
    · have hbb : decide ((len' : Int) > 1048576) = true := by simp; omega
      go_enter Try.func16, Try.ntmps16
      go_wp2
      go_ret
      exact ⟨rfl, Below.refl _ _⟩
  · have hbb : decide ((len : Int) > 1048576) = true := by simp; omega
    go_enter Try.func16, Try.ntmps16
    go_wp2
    go_ret
    exact ⟨rfl, Below.refl _ _⟩
end Go.Proofs.Ytddhjafpacgdaaa
