/- The walk of the law FnSubArgs: two names with arguments are the same if these are, one by one. -/
import Derived.Test.YtddhjafpacgdaaaQPT5
import Derived.Test.YtddhjafpacgdaaaQPlain3Plain6PT3PT4W16
import Derived.Test.YtddhjafpacgdaaaQT6U4
namespace Go.Proofs.Ytddhjafpacgdaaa
open Go.RowKit
set_option linter.unusedVariables false
set_option linter.unusedSimpArgs false

set_option maxRecDepth 100000 in
set_option maxHeartbeats 4000000 in
theorem FnSubArgs_walk (ao : Option Addr) (len cap : Nat) (z : Nat → Int) (w : World) (h : Bin w ao len cap z) :
    Calls Try.prog 13 #[.slice ao len cap] w fun e w' => e = .returned (.bool true) ∧ Below w.heap.size w w' := by
  have hmx : len ≤ 9223372036854775807 := by have := h.1; have := h.2.1; unfold maxLen at this; omega
  by_cases hbig : len ≤ 1048576
  · go_enter Try.func13, Try.ntmps13
    go_wp2_with fail
    refine (drawSubUnify_any ao len cap z _ h).mono ?_
    rintro e w1 ⟨v, s, x, a, y, b, rfl, hO1, hF, hA1, hla, hDa, hB1, hlb, hDb, hb1⟩
    have HF := hide hF
    have HFA := hide (dc_fit hDa).1
    have HFB := hide (dc_fit hDb).1
    obtain ⟨sa, sc, rfl, _, _, hR1⟩ := hO1.shape
    obtain ⟨xa, xc, rfl, _⟩ := hA1.shape
    obtain ⟨ya, yc, rfl, _⟩ := hB1.shape
    have HR := hide hR1
    have HA := hide hA1
    have HB := hide hB1
    clear hF hDa hDb hO1 hR1 hA1 hB1 h
    cases hso : subOk s with
    | false =>
      have HSO := hide hso
      clear hso
      have HC2 := hide (sO (sc := sc) (by omega) (unhide HF) (unhide HR) (Below.refl _ _) (unhide HSO))
      go_wp2_with fail
      refine (unhide HC2).mono ?_
      clear HC2
      rintro e w2 ⟨rfl, hb2⟩
      have hX1_2 : Below w1.heap.size w1 w2 := hb2
      have HC3 := hide (caOk_any w2)
      go_wp2_with fail
      refine (unhide HC3).mono ?_
      clear HC3
      rintro e w3 ⟨rfl, hb3⟩
      have hX1_3 : Below w1.heap.size w1 w3 := bstep hX1_2 hb3
      go_wp2
      go_ret
      exact ⟨rfl, bstep hb1 hX1_3⟩
    | true =>
      cases hta : trm a with
      | false =>
        have HSO := hide hso
        have HTA := hide hta
        clear hso hta
        have HC2 := hide (sO (sc := sc) (by omega) (unhide HF) (unhide HR) (Below.refl _ _) (unhide HSO))
        go_wp2_with fail
        refine (unhide HC2).mono ?_
        clear HC2
        rintro e w2 ⟨rfl, hb2⟩
        have hX1_2 : Below w1.heap.size w1 w2 := hb2
        have HC3 := hide (sT hla (unhide HA) (unhide HFA) hX1_2 (unhide HTA))
        go_wp2_with fail
        refine (unhide HC3).mono ?_
        clear HC3
        rintro e w3 ⟨rfl, hb3⟩
        have hX1_3 : Below w1.heap.size w1 w3 := bstep hX1_2 hb3
        have HC4 := hide (caOk_any w3)
        go_wp2_with fail
        refine (unhide HC4).mono ?_
        clear HC4
        rintro e w4 ⟨rfl, hb4⟩
        have hX1_4 : Below w1.heap.size w1 w4 := bstep hX1_3 hb4
        go_wp2
        go_ret
        exact ⟨rfl, bstep hb1 hX1_4⟩
      | true =>
        cases htb : trm b with
        | false =>
          have HSO := hide hso
          have HTA := hide hta
          have HTB := hide htb
          clear hso hta htb
          have HC2 := hide (sO (sc := sc) (by omega) (unhide HF) (unhide HR) (Below.refl _ _) (unhide HSO))
          go_wp2_with fail
          refine (unhide HC2).mono ?_
          clear HC2
          rintro e w2 ⟨rfl, hb2⟩
          have hX1_2 : Below w1.heap.size w1 w2 := hb2
          have HC3 := hide (sT hla (unhide HA) (unhide HFA) hX1_2 (unhide HTA))
          go_wp2_with fail
          refine (unhide HC3).mono ?_
          clear HC3
          rintro e w3 ⟨rfl, hb3⟩
          have hX1_3 : Below w1.heap.size w1 w3 := bstep hX1_2 hb3
          have HC4 := hide (sT hlb (unhide HB) (unhide HFB) hX1_3 (unhide HTB))
          go_wp2_with fail
          refine (unhide HC4).mono ?_
          clear HC4
          rintro e w4 ⟨rfl, hb4⟩
          have hX1_4 : Below w1.heap.size w1 w4 := bstep hX1_3 hb4
          have HC5 := hide (caOk_any w4)
          go_wp2_with fail
          refine (unhide HC5).mono ?_
          clear HC5
          rintro e w5 ⟨rfl, hb5⟩
          have hX1_5 : Below w1.heap.size w1 w5 := bstep hX1_4 hb5
          go_wp2
          go_ret
          exact ⟨rfl, bstep hb1 hX1_5⟩
        | true =>
          have HSO := hide hso
          have HTA := hide hta
          have HTB := hide htb
          obtain ⟨f, c, xs, hax, hxl, hxs⟩ := trm_kids hta
          obtain ⟨f', d, ys, hby, hyl, hys⟩ := trm_kids htb
          have hpa := (trm_len hta).1
          have hpb := (trm_len htb).1
          obtain ⟨ga, ca', hva, _, hgla, _⟩ := own_some (unhide HA) hpa
          simp only [Value.slice.injEq] at hva
          obtain ⟨rfl, _, rfl⟩ := hva
          obtain ⟨gb, cb', hvb, _, hglb, _⟩ := own_some (unhide HB) hpb
          simp only [Value.slice.injEq] at hvb
          obtain ⟨rfl, _, rfl⟩ := hvb
          obtain ⟨a0, a1, a2⟩ := owns_at (unhide HA) rfl 0 hpa
          obtain ⟨b0, b1, b2⟩ := owns_at (unhide HB) rfl 0 hpb
          have h0a : a[0]'hpa = c := by subst hax; rfl
          have h0b : b[0]'hpb = d := by subst hby; rfl
          rw [h0a] at a0 a1 a2
          rw [h0b] at b0 b1 b2
          simp only [Nat.zero_mul, Nat.add_zero] at a0 a1 a2 b0 b1 b2
          have HAX := hide hax
          have HBY := hide hby
          have HXL := hide hxl
          have HYL := hide hyl
          have HXS := hide hxs
          have HYS := hide hys
          have hok0 : okC c = true := (trm_Trm hta).2 c (by rw [hax]; simp)
          have hok1 : okC d = true := (trm_Trm htb).2 d (by rw [hby]; simp)
          have HOK0 := hide hok0
          have HOK1 := hide hok1
          clear hso hta htb hax hby hxl hyl hxs hys h0a h0b hok0 hok1
          by_cases hc3 : c.k = 3
          · have hc3b : (c.k != 3) = false := by simpa using hc3
            obtain ⟨o, hh, hM⟩ := um_all s a b
            have HFO := hide (um_few (unhide HF) hla hlb hM)
            have hcd : hh = 1 ∨ hh = 2 ∨ hh = 3 := by
              rcases (um_codes hM).2 with ⟨_, h2⟩ | ⟨_, h2⟩
              · exact absurd ⟨unhide HSO, unhide HTA, unhide HTB⟩ h2
              · exact h2
            have HM := hide hM
            clear hM
            have HC3 := hide hc3
            clear hc3
            by_cases hd3 : d.k = 3
            · have hd3b : (d.k == 3) = true := by simpa using hd3
              have hd3n : (d.k != 3) = false := by simpa using hd3
              have HD3 := hide hd3
              clear hd3
              by_cases hdc : d = c
              · have hneq := neq_cell d c
                rw [(same_iff d c).2 hdc] at hneq
                have HDC := hide hdc
                clear hdc
                rcases hcd with rfl | rfl | rfl
                · skip
                  have HC2 := hide (sO (sc := sc) (by omega) (unhide HF) (unhide HR) (Below.refl _ _) (unhide HSO))
                  go_wp2_with fail
                  refine (unhide HC2).mono ?_
                  clear HC2
                  rintro e w2 ⟨rfl, hb2⟩
                  have hX1_2 : Below w1.heap.size w1 w2 := hb2
                  have HC3 := hide (sT hla (unhide HA) (unhide HFA) hX1_2 (unhide HTA))
                  go_wp2_with fail
                  refine (unhide HC3).mono ?_
                  clear HC3
                  rintro e w3 ⟨rfl, hb3⟩
                  have hX1_3 : Below w1.heap.size w1 w3 := bstep hX1_2 hb3
                  have HC4 := hide (sT hlb (unhide HB) (unhide HFB) hX1_3 (unhide HTB))
                  go_wp2_with fail
                  refine (unhide HC4).mono ?_
                  clear HC4
                  rintro e w4 ⟨rfl, hb4⟩
                  have hX1_4 : Below w1.heap.size w1 w4 := bstep hX1_3 hb4
                  have a00 := (hX1_4.cell (p := ⟨ga, 0, none⟩) hgla).trans a0
                  have HC5 := hide (iU (sc := sc) (by omega) (unhide HF) (unhide HR) (unhide HA) (unhide HB) (unhide HFA) (unhide HFB) (unhide HM) hX1_4)
                  go_wp2_with fail
                  refine (unhide HC5).mono ?_
                  clear HC5
                  rintro e w5 ⟨v5, rfl, hOo, hb5⟩
                  have hX1_5 : Below w1.heap.size w1 w5 := bstep hX1_4 hb5
                  obtain ⟨oa, oc, rfl, _, _, hRo⟩ := hOo.shape
                  have HRo := hide hRo
                  clear hOo hRo
                  clear a00
                  have a00 := (hX1_5.cell (p := ⟨ga, 0, none⟩) hgla).trans a0
                  have a11 := (hX1_5.cell (p := ⟨ga, 1, none⟩) hgla).trans a1
                  have a22 := (hX1_5.cell (p := ⟨ga, 2, none⟩) hgla).trans a2
                  have b00 := (hX1_5.cell (p := ⟨gb, 0, none⟩) hglb).trans b0
                  have b11 := (hX1_5.cell (p := ⟨gb, 1, none⟩) hglb).trans b1
                  have b22 := (hX1_5.cell (p := ⟨gb, 2, none⟩) hglb).trans b2
                  go_wp2
                  go_quiet (fail)
                  go_wp2
                  have hcn : c.n = (xs.length : Int) := by have h1 := unhide HXL; unfold ari at h1; rw [if_pos (unhide HC3)] at h1; exact h1.symm
                  have hxy : xs.length = ys.length := by have h1 := unhide HYL; rw [unhide HDC] at h1; have h2 := unhide HXL; omega
                  have hx3 : xs.length ≤ 3 := by have h1 := (ari_ok (unhide HOK0)).2; have h2 := unhide HXL; omega
                  have HXY := hide hxy
                  have HCN := hide hcn
                  have HMM : Hid (UM s (c :: xs.flatten) (c :: ys.flatten) o 1) := by
                    have := unhide HM
                    rw [unhide HAX, unhide HBY, unhide HDC] at this
                    exact this
                  have HTX : Hid (∀ q ∈ xs, Trm q) := fun q hq => ⟨⟨_, unhide HXS q hq⟩, fun e he => (trm_Trm (unhide HTA)).2 e (by rw [unhide HAX]; exact List.mem_cons_of_mem _ (List.mem_flatten.2 ⟨q, hq, he⟩))⟩
                  have HTY : Hid (∀ q ∈ ys, Trm q) := fun q hq => ⟨⟨_, unhide HYS q hq⟩, fun e he => (trm_Trm (unhide HTB)).2 e (by rw [unhide HBY]; exact List.mem_cons_of_mem _ (List.mem_flatten.2 ⟨q, hq, he⟩))⟩
                  have HC1 : Hid (c.k ≠ 1) := by show c.k ≠ 1; rw [unhide HC3]; omega
                  have HKX : Hid (∀ j, (hj : j < xs.length) → argOf a (j : Int) = xs[j] ∧ trm xs[j] = true) := fun j hj => by
                    have h1 := unhide HTA
                    rw [unhide HAX] at h1 ⊢
                    rw [argOf_at h1 (unhide HXL) (unhide HXS) (by omega), Int.toNat_natCast, List.getElem?_eq_getElem hj]
                    exact ⟨rfl, arg_trm h1 (unhide HXS) (List.getElem_mem hj)⟩
                  have HKY : Hid (∀ j, (hj : j < ys.length) → argOf b (j : Int) = ys[j] ∧ trm ys[j] = true) := fun j hj => by
                    have h1 := unhide HTB
                    rw [unhide HBY] at h1 ⊢
                    rw [argOf_at h1 (unhide HYL) (unhide HYS) (by omega), Int.toNat_natCast, List.getElem?_eq_getElem hj]
                    exact ⟨rfl, arg_trm h1 (unhide HYS) (List.getElem_mem hj)⟩
                  have a1' := a1
                  clear hcn hxy hneq b00 b11 b22 a00 a11 a22 b0 b1 b2 a0 a1 a2
                  go_loopw [8, 9] (fun yv i wr => ∃ (k : Nat) (y : List B) (za : Option Addr) (zc : Nat), k ≤ xs.length ∧ i = .int .i64 k ∧ yv = .slice za y.length zc ∧ RowB wr za y ∧ Inv s xs ys k y ∧ FewK (10 + 2 * k) y ∧ Below w5.heap.size w5 wr) (fun _ i _ => xs.length - (intOf i).toNat)
                  case atStart => exact ⟨0, s, sa, sc, Nat.zero_le _, rfl, rfl, RowB.below (unhide HR) (by first | exact below_drewN hX1_5 _ | exact hX1_5), Inv.start (unhide HSO), unhide HF, by first | exact below_drewN (Below.refl _ _) _ | exact Below.refl _ _⟩
                  case round =>
                    obtain ⟨k, y, za, zc, hk, rfl, rfl, hRz, hI, hFz, hB⟩ := hrel
                    obtain ⟨w50, h50⟩ : ∃ w50, w50 = wr := ⟨_, rfl⟩
                    subst h50
                    have HI := hide hI
                    have HFZ := hide hFz
                    have HRZ := hide hRz
                    clear hI hFz hRz
                    have q1 := ((bstep hX1_5 hB).cell (p := ⟨ga, 1, none⟩) hgla).trans a1'
                    rw [unhide HCN] at q1
                    by_cases hlt : k < xs.length
                    · have hlt2 : k < ys.length := by rw [← unhide HXY]; exact hlt
                      obtain ⟨ex, tx⟩ := unhide HKX k hlt
                      obtain ⟨ey, ty⟩ := unhide HKY k hlt2
                      obtain ⟨z, each, hN⟩ := um_all y xs[k] ys[k]
                      have hxk : xs[k].length ≤ 41 := by have := (trm_len tx).2; omega
                      have hyk : ys[k].length ≤ 41 := by have := (trm_len ty).2; omega
                      have HFN := hide (um_few (unhide HFZ) hxk hyk hN)
                      have hce : each = 1 ∨ each = 2 ∨ each = 3 := by
                        rcases (um_codes hN).2 with ⟨_, h2⟩ | ⟨_, h2⟩
                        · exact absurd ⟨(unhide HI).ok, tx, ty⟩ h2
                        · exact h2
                      have HST : Hid (each = 1 → Inv s xs ys (k + 1) z) := fun e => by subst e; exact (unhide HI).step hlt hlt2 hN
                      have HAP : Hid (each = 2 → (1 : Int) ≠ 1) := fun e => args_apart (unhide HC1) (unhide HTX) (unhide HTY) (unhide HI) hlt hlt2 (unhide HMM) hN e
                      have HFX := hide (show Fit xs[k] from fun e he => (okC_fit ((trm_Trm tx).2 e he)).1)
                      have HFY := hide (show Fit ys[k] from fun e he => (okC_fit ((trm_Trm ty).2 e he)).1)
                      have HAR := hide (fun (W : World) (hW : Below w1.heap.size w1 W) => TrmArg_any (some ⟨ga, 0, none⟩) xc a (k : Int) W (len41 hla) (own_caps (unhide HA)).1 (own_caps (unhide HA)).2 (OwnC.row (OwnC.below (unhide HA) hW)) (unhide HFA))
                      have HBR := hide (fun (W : World) (hW : Below w1.heap.size w1 W) => TrmArg_any (some ⟨gb, 0, none⟩) yc b (k : Int) W (len41 hlb) (own_caps (unhide HB)).1 (own_caps (unhide HB)).2 (OwnC.row (OwnC.below (unhide HB) hW)) (unhide HFB))
                      rw [ex] at HAR
                      rw [ey] at HBR
                      generalize xs[k] = X at HAR hxk HFX hN
                      generalize ys[k] = Y at HBR hyk HFY hN
                      have HN := hide hN
                      clear hN ex ey tx ty
                      rcases hce with rfl | rfl | rfl
                      · skip
                        have HC51 := hide (unhide HAR w50 (bstep hX1_5 hB))
                        go_wp2_with fail
                        refine (unhide HC51).mono ?_
                        clear HC51
                        rintro e w51 ⟨vx, rfl, hX, hb51⟩
                        have hX1_51 : Below w1.heap.size w1 w51 := bstep (bstep hX1_5 hB) hb51
                        have hX5_51 : Below w5.heap.size w5 w51 := bstep hB hb51
                        have hX50_51 : Below w50.heap.size w50 w51 := hb51
                        obtain ⟨pa, pc, rfl, _⟩ := OwnC.shape hX
                        have HX := hide hX
                        clear hX
                        have HC52 := hide (unhide HBR w51 hX1_51)
                        go_wp2_with fail
                        refine (unhide HC52).mono ?_
                        clear HC52
                        rintro e w52 ⟨vy, rfl, hY, hb52⟩
                        have hX1_52 : Below w1.heap.size w1 w52 := bstep hX1_51 hb52
                        have hX5_52 : Below w5.heap.size w5 w52 := bstep hX5_51 hb52
                        have hX50_52 : Below w50.heap.size w50 w52 := bstep hX50_51 hb52
                        have hX51_52 : Below w51.heap.size w51 w52 := hb52
                        obtain ⟨qa, qc, rfl, _⟩ := OwnC.shape hY
                        have HY := hide hY
                        clear hY
                        have HC53 := hide (iU (k := 10 + 2 * k) (sc := zc) (by omega) (unhide HFZ) ((unhide HRZ).below hX50_52) (OwnC.below (unhide HX) hX51_52) (unhide HY) (unhide HFX) (unhide HFY) (unhide HN) (Below.refl _ w52))
                        go_wp2_with fail
                        refine (unhide HC53).mono ?_
                        clear HC53
                        rintro e w53 ⟨vz, rfl, hOn, hb53⟩
                        have hX1_53 : Below w1.heap.size w1 w53 := bstep hX1_52 hb53
                        have hX5_53 : Below w5.heap.size w5 w53 := bstep hX5_52 hb53
                        have hX50_53 : Below w50.heap.size w50 w53 := bstep hX50_52 hb53
                        have hX51_53 : Below w51.heap.size w51 w53 := bstep hX51_52 hb53
                        have hX52_53 : Below w52.heap.size w52 w53 := hb53
                        obtain ⟨na, nc, rfl, _, _, hRn⟩ := hOn.shape
                        have HRn := hide hRn
                        clear hOn hRn
                        go_wp2
                        go_roundw
                        case rel => exact ⟨k + 1, z, na, nc, by omega, by go_num, rfl, unhide HRn, unhide HST (by first | rfl | trivial), by have := unhide HFN; rwa [show 10 + 2 * k + 2 = 10 + 2 * (k + 1) by omega] at this, hX5_53⟩
                        case measure => simp [intOf]; omega
                      · exact absurd rfl (unhide HAP rfl)
                      · clear HAP
                        have HC51 := hide (unhide HAR w50 (bstep hX1_5 hB))
                        go_wp2_with fail
                        refine (unhide HC51).mono ?_
                        clear HC51
                        rintro e w51 ⟨vx, rfl, hX, hb51⟩
                        have hX1_51 : Below w1.heap.size w1 w51 := bstep (bstep hX1_5 hB) hb51
                        have hX5_51 : Below w5.heap.size w5 w51 := bstep hB hb51
                        have hX50_51 : Below w50.heap.size w50 w51 := hb51
                        obtain ⟨pa, pc, rfl, _⟩ := OwnC.shape hX
                        have HX := hide hX
                        clear hX
                        have HC52 := hide (unhide HBR w51 hX1_51)
                        go_wp2_with fail
                        refine (unhide HC52).mono ?_
                        clear HC52
                        rintro e w52 ⟨vy, rfl, hY, hb52⟩
                        have hX1_52 : Below w1.heap.size w1 w52 := bstep hX1_51 hb52
                        have hX5_52 : Below w5.heap.size w5 w52 := bstep hX5_51 hb52
                        have hX50_52 : Below w50.heap.size w50 w52 := bstep hX50_51 hb52
                        have hX51_52 : Below w51.heap.size w51 w52 := hb52
                        obtain ⟨qa, qc, rfl, _⟩ := OwnC.shape hY
                        have HY := hide hY
                        clear hY
                        have HC53 := hide (iU (k := 10 + 2 * k) (sc := zc) (by omega) (unhide HFZ) ((unhide HRZ).below hX50_52) (OwnC.below (unhide HX) hX51_52) (unhide HY) (unhide HFX) (unhide HFY) (unhide HN) (Below.refl _ w52))
                        go_wp2_with fail
                        refine (unhide HC53).mono ?_
                        clear HC53
                        rintro e w53 ⟨vz, rfl, hOn, hb53⟩
                        have hX1_53 : Below w1.heap.size w1 w53 := bstep hX1_52 hb53
                        have hX5_53 : Below w5.heap.size w5 w53 := bstep hX5_52 hb53
                        have hX50_53 : Below w50.heap.size w50 w53 := bstep hX50_52 hb53
                        have hX51_53 : Below w51.heap.size w51 w53 := bstep hX51_52 hb53
                        have hX52_53 : Below w52.heap.size w52 w53 := hb53
                        obtain ⟨na, nc, rfl, _, _, hRn⟩ := hOn.shape
                        have HRn := hide hRn
                        clear hOn hRn
                        have HC54 := hide (caOk_any w53)
                        go_wp2_with fail
                        refine (unhide HC54).mono ?_
                        clear HC54
                        rintro e w54 ⟨rfl, hb54⟩
                        have hX1_54 : Below w1.heap.size w1 w54 := bstep hX1_53 hb54
                        have hX5_54 : Below w5.heap.size w5 w54 := bstep hX5_53 hb54
                        have hX50_54 : Below w50.heap.size w50 w54 := bstep hX50_53 hb54
                        have hX51_54 : Below w51.heap.size w51 w54 := bstep hX51_53 hb54
                        have hX52_54 : Below w52.heap.size w52 w54 := bstep hX52_53 hb54
                        go_wp2
                        go_ret
                        exact ⟨rfl, bstep hb1 hX1_54⟩
                    · have hkx : k = xs.length := by omega
                      subst hkx
                      obtain ⟨u, v, f1, f2, f3⟩ := (args_done (unhide HXY) (unhide HC1) (unhide HTX) (unhide HTY) (unhide HI) (unhide HMM)).2 rfl
                      rw [← unhide HAX] at f1 f2
                      have hul : u.length ≤ 41 := by have := (fullB_some f1).2.1; omega
                      have hvl : v.length ≤ 41 := by have := (fullB_some f2).2.1; omega
                      have hcl : (canonOf u).length ≤ 41 := by rw [canonOf_length]; exact hul
                      have HWF1 := hide (wf_trm (fullB_some f1).1)
                      have HWF2 := hide (wf_trm (fullB_some f2).1)
                      have HF1 := hide f1
                      have HF2 := hide f2
                      have HF3 := hide f3
                      clear f1 f2 f3
                      have HC51 := hide (iF1 (k := 12) (sc := oc) (by omega) (unhide HFO) ((unhide HRo).below hB) (unhide HA) (unhide HFA) (bstep hX1_5 hB) (unhide HF1))
                      go_wp2_with fail
                      refine (unhide HC51).mono ?_
                      clear HC51
                      rintro e w51 ⟨ua, uc, rfl, hU, hb51⟩
                      have hX1_51 : Below w1.heap.size w1 w51 := bstep (bstep hX1_5 hB) hb51
                      have hX5_51 : Below w5.heap.size w5 w51 := bstep hB hb51
                      have hX50_51 : Below w50.heap.size w50 w51 := hb51
                      have HU := hide hU
                      clear hU
                      have HC52 := hide (iF1 (k := 10 + 2 * xs.length) (sc := zc) (by omega) (unhide HFZ) ((unhide HRZ).below hX50_51) (unhide HA) (unhide HFA) hX1_51 (unhide HF2))
                      go_wp2_with fail
                      refine (unhide HC52).mono ?_
                      clear HC52
                      rintro e w52 ⟨va, vc, rfl, hV, hb52⟩
                      have hX1_52 : Below w1.heap.size w1 w52 := bstep hX1_51 hb52
                      have hX5_52 : Below w5.heap.size w5 w52 := bstep hX5_51 hb52
                      have hX50_52 : Below w50.heap.size w50 w52 := bstep hX50_51 hb52
                      have hX51_52 : Below w51.heap.size w51 w52 := hb52
                      have HV := hide hV
                      clear hV
                      have HC53 := hide (TrmCanon_any ua uc u w52 (by omega) (OwnC.row (OwnC.below (unhide HU) hX51_52)) (unhide HWF1))
                      go_wp2_with fail
                      refine (unhide HC53).mono ?_
                      clear HC53
                      rintro e w53 ⟨c8, rfl, hC8, hb53⟩
                      have hX1_53 : Below w1.heap.size w1 w53 := bstep hX1_52 hb53
                      have hX5_53 : Below w5.heap.size w5 w53 := bstep hX5_52 hb53
                      have hX50_53 : Below w50.heap.size w50 w53 := bstep hX50_52 hb53
                      have hX51_53 : Below w51.heap.size w51 w53 := bstep hX51_52 hb53
                      have hX52_53 : Below w52.heap.size w52 w53 := hb53
                      obtain ⟨c8a, c8c, rfl, _⟩ := OwnC.shape hC8
                      have HC8 := hide hC8
                      clear hC8
                      have HC54 := hide (TrmCanon_any va vc v w53 (by omega) (OwnC.row (OwnC.below (unhide HV) hX52_53)) (unhide HWF2))
                      go_wp2_with fail
                      refine (unhide HC54).mono ?_
                      clear HC54
                      rintro e w54 ⟨c9, rfl, hC9, hb54⟩
                      have hX1_54 : Below w1.heap.size w1 w54 := bstep hX1_53 hb54
                      have hX5_54 : Below w5.heap.size w5 w54 := bstep hX5_53 hb54
                      have hX50_54 : Below w50.heap.size w50 w54 := bstep hX50_53 hb54
                      have hX51_54 : Below w51.heap.size w51 w54 := bstep hX51_53 hb54
                      have hX52_54 : Below w52.heap.size w52 w54 := bstep hX52_53 hb54
                      have hX53_54 : Below w53.heap.size w53 w54 := hb54
                      rw [← unhide HF3] at hC9
                      obtain ⟨c9a, c9c, rfl, _⟩ := OwnC.shape hC9
                      have HC9 := hide hC9
                      clear hC9
                      have HC55 := hide (cT hcl (OwnC.below (unhide HC8) hX53_54) (unhide HC9))
                      go_wp2_with fail
                      refine (unhide HC55).mono ?_
                      clear HC55
                      rintro e w55 ⟨rfl, hb55⟩
                      have hX1_55 : Below w1.heap.size w1 w55 := bstep hX1_54 hb55
                      have hX5_55 : Below w5.heap.size w5 w55 := bstep hX5_54 hb55
                      have hX50_55 : Below w50.heap.size w50 w55 := bstep hX50_54 hb55
                      have hX51_55 : Below w51.heap.size w51 w55 := bstep hX51_54 hb55
                      have hX52_55 : Below w52.heap.size w52 w55 := bstep hX52_54 hb55
                      have hX53_55 : Below w53.heap.size w53 w55 := bstep hX53_54 hb55
                      go_wp2
                      go_ret
                      exact ⟨rfl, bstep hb1 hX1_55⟩
                · skip
                  have HC2 := hide (sO (sc := sc) (by omega) (unhide HF) (unhide HR) (Below.refl _ _) (unhide HSO))
                  go_wp2_with fail
                  refine (unhide HC2).mono ?_
                  clear HC2
                  rintro e w2 ⟨rfl, hb2⟩
                  have hX1_2 : Below w1.heap.size w1 w2 := hb2
                  have HC3 := hide (sT hla (unhide HA) (unhide HFA) hX1_2 (unhide HTA))
                  go_wp2_with fail
                  refine (unhide HC3).mono ?_
                  clear HC3
                  rintro e w3 ⟨rfl, hb3⟩
                  have hX1_3 : Below w1.heap.size w1 w3 := bstep hX1_2 hb3
                  have HC4 := hide (sT hlb (unhide HB) (unhide HFB) hX1_3 (unhide HTB))
                  go_wp2_with fail
                  refine (unhide HC4).mono ?_
                  clear HC4
                  rintro e w4 ⟨rfl, hb4⟩
                  have hX1_4 : Below w1.heap.size w1 w4 := bstep hX1_3 hb4
                  have a00 := (hX1_4.cell (p := ⟨ga, 0, none⟩) hgla).trans a0
                  have HC5 := hide (iU (sc := sc) (by omega) (unhide HF) (unhide HR) (unhide HA) (unhide HB) (unhide HFA) (unhide HFB) (unhide HM) hX1_4)
                  go_wp2_with fail
                  refine (unhide HC5).mono ?_
                  clear HC5
                  rintro e w5 ⟨v5, rfl, hOo, hb5⟩
                  have hX1_5 : Below w1.heap.size w1 w5 := bstep hX1_4 hb5
                  obtain ⟨oa, oc, rfl, _, _, hRo⟩ := hOo.shape
                  have HRo := hide hRo
                  clear hOo hRo
                  clear a00
                  have a00 := (hX1_5.cell (p := ⟨ga, 0, none⟩) hgla).trans a0
                  have a11 := (hX1_5.cell (p := ⟨ga, 1, none⟩) hgla).trans a1
                  have a22 := (hX1_5.cell (p := ⟨ga, 2, none⟩) hgla).trans a2
                  have b00 := (hX1_5.cell (p := ⟨gb, 0, none⟩) hglb).trans b0
                  have b11 := (hX1_5.cell (p := ⟨gb, 1, none⟩) hglb).trans b1
                  have b22 := (hX1_5.cell (p := ⟨gb, 2, none⟩) hglb).trans b2
                  go_wp2
                  go_quiet (fail)
                  go_wp2
                  have hcn : c.n = (xs.length : Int) := by have h1 := unhide HXL; unfold ari at h1; rw [if_pos (unhide HC3)] at h1; exact h1.symm
                  have hxy : xs.length = ys.length := by have h1 := unhide HYL; rw [unhide HDC] at h1; have h2 := unhide HXL; omega
                  have hx3 : xs.length ≤ 3 := by have h1 := (ari_ok (unhide HOK0)).2; have h2 := unhide HXL; omega
                  have HXY := hide hxy
                  have HCN := hide hcn
                  have HMM : Hid (UM s (c :: xs.flatten) (c :: ys.flatten) o 2) := by
                    have := unhide HM
                    rw [unhide HAX, unhide HBY, unhide HDC] at this
                    exact this
                  have HTX : Hid (∀ q ∈ xs, Trm q) := fun q hq => ⟨⟨_, unhide HXS q hq⟩, fun e he => (trm_Trm (unhide HTA)).2 e (by rw [unhide HAX]; exact List.mem_cons_of_mem _ (List.mem_flatten.2 ⟨q, hq, he⟩))⟩
                  have HTY : Hid (∀ q ∈ ys, Trm q) := fun q hq => ⟨⟨_, unhide HYS q hq⟩, fun e he => (trm_Trm (unhide HTB)).2 e (by rw [unhide HBY]; exact List.mem_cons_of_mem _ (List.mem_flatten.2 ⟨q, hq, he⟩))⟩
                  have HC1 : Hid (c.k ≠ 1) := by show c.k ≠ 1; rw [unhide HC3]; omega
                  have HKX : Hid (∀ j, (hj : j < xs.length) → argOf a (j : Int) = xs[j] ∧ trm xs[j] = true) := fun j hj => by
                    have h1 := unhide HTA
                    rw [unhide HAX] at h1 ⊢
                    rw [argOf_at h1 (unhide HXL) (unhide HXS) (by omega), Int.toNat_natCast, List.getElem?_eq_getElem hj]
                    exact ⟨rfl, arg_trm h1 (unhide HXS) (List.getElem_mem hj)⟩
                  have HKY : Hid (∀ j, (hj : j < ys.length) → argOf b (j : Int) = ys[j] ∧ trm ys[j] = true) := fun j hj => by
                    have h1 := unhide HTB
                    rw [unhide HBY] at h1 ⊢
                    rw [argOf_at h1 (unhide HYL) (unhide HYS) (by omega), Int.toNat_natCast, List.getElem?_eq_getElem hj]
                    exact ⟨rfl, arg_trm h1 (unhide HYS) (List.getElem_mem hj)⟩
                  have a1' := a1
                  clear hcn hxy hneq b00 b11 b22 a00 a11 a22 b0 b1 b2 a0 a1 a2
                  go_loopw [8, 9] (fun yv i wr => ∃ (k : Nat) (y : List B) (za : Option Addr) (zc : Nat), k ≤ xs.length ∧ i = .int .i64 k ∧ yv = .slice za y.length zc ∧ RowB wr za y ∧ Inv s xs ys k y ∧ FewK (10 + 2 * k) y ∧ Below w5.heap.size w5 wr) (fun _ i _ => xs.length - (intOf i).toNat)
                  case atStart => exact ⟨0, s, sa, sc, Nat.zero_le _, rfl, rfl, RowB.below (unhide HR) (by first | exact below_drewN hX1_5 _ | exact hX1_5), Inv.start (unhide HSO), unhide HF, by first | exact below_drewN (Below.refl _ _) _ | exact Below.refl _ _⟩
                  case round =>
                    obtain ⟨k, y, za, zc, hk, rfl, rfl, hRz, hI, hFz, hB⟩ := hrel
                    obtain ⟨w50, h50⟩ : ∃ w50, w50 = wr := ⟨_, rfl⟩
                    subst h50
                    have HI := hide hI
                    have HFZ := hide hFz
                    have HRZ := hide hRz
                    clear hI hFz hRz
                    have q1 := ((bstep hX1_5 hB).cell (p := ⟨ga, 1, none⟩) hgla).trans a1'
                    rw [unhide HCN] at q1
                    by_cases hlt : k < xs.length
                    · have hlt2 : k < ys.length := by rw [← unhide HXY]; exact hlt
                      obtain ⟨ex, tx⟩ := unhide HKX k hlt
                      obtain ⟨ey, ty⟩ := unhide HKY k hlt2
                      obtain ⟨z, each, hN⟩ := um_all y xs[k] ys[k]
                      have hxk : xs[k].length ≤ 41 := by have := (trm_len tx).2; omega
                      have hyk : ys[k].length ≤ 41 := by have := (trm_len ty).2; omega
                      have HFN := hide (um_few (unhide HFZ) hxk hyk hN)
                      have hce : each = 1 ∨ each = 2 ∨ each = 3 := by
                        rcases (um_codes hN).2 with ⟨_, h2⟩ | ⟨_, h2⟩
                        · exact absurd ⟨(unhide HI).ok, tx, ty⟩ h2
                        · exact h2
                      have HST : Hid (each = 1 → Inv s xs ys (k + 1) z) := fun e => by subst e; exact (unhide HI).step hlt hlt2 hN
                      have HAP : Hid (each = 2 → (2 : Int) ≠ 1) := fun e => args_apart (unhide HC1) (unhide HTX) (unhide HTY) (unhide HI) hlt hlt2 (unhide HMM) hN e
                      have HFX := hide (show Fit xs[k] from fun e he => (okC_fit ((trm_Trm tx).2 e he)).1)
                      have HFY := hide (show Fit ys[k] from fun e he => (okC_fit ((trm_Trm ty).2 e he)).1)
                      have HAR := hide (fun (W : World) (hW : Below w1.heap.size w1 W) => TrmArg_any (some ⟨ga, 0, none⟩) xc a (k : Int) W (len41 hla) (own_caps (unhide HA)).1 (own_caps (unhide HA)).2 (OwnC.row (OwnC.below (unhide HA) hW)) (unhide HFA))
                      have HBR := hide (fun (W : World) (hW : Below w1.heap.size w1 W) => TrmArg_any (some ⟨gb, 0, none⟩) yc b (k : Int) W (len41 hlb) (own_caps (unhide HB)).1 (own_caps (unhide HB)).2 (OwnC.row (OwnC.below (unhide HB) hW)) (unhide HFB))
                      rw [ex] at HAR
                      rw [ey] at HBR
                      generalize xs[k] = X at HAR hxk HFX hN
                      generalize ys[k] = Y at HBR hyk HFY hN
                      have HN := hide hN
                      clear hN ex ey tx ty
                      rcases hce with rfl | rfl | rfl
                      · skip
                        have HC51 := hide (unhide HAR w50 (bstep hX1_5 hB))
                        go_wp2_with fail
                        refine (unhide HC51).mono ?_
                        clear HC51
                        rintro e w51 ⟨vx, rfl, hX, hb51⟩
                        have hX1_51 : Below w1.heap.size w1 w51 := bstep (bstep hX1_5 hB) hb51
                        have hX5_51 : Below w5.heap.size w5 w51 := bstep hB hb51
                        have hX50_51 : Below w50.heap.size w50 w51 := hb51
                        obtain ⟨pa, pc, rfl, _⟩ := OwnC.shape hX
                        have HX := hide hX
                        clear hX
                        have HC52 := hide (unhide HBR w51 hX1_51)
                        go_wp2_with fail
                        refine (unhide HC52).mono ?_
                        clear HC52
                        rintro e w52 ⟨vy, rfl, hY, hb52⟩
                        have hX1_52 : Below w1.heap.size w1 w52 := bstep hX1_51 hb52
                        have hX5_52 : Below w5.heap.size w5 w52 := bstep hX5_51 hb52
                        have hX50_52 : Below w50.heap.size w50 w52 := bstep hX50_51 hb52
                        have hX51_52 : Below w51.heap.size w51 w52 := hb52
                        obtain ⟨qa, qc, rfl, _⟩ := OwnC.shape hY
                        have HY := hide hY
                        clear hY
                        have HC53 := hide (iU (k := 10 + 2 * k) (sc := zc) (by omega) (unhide HFZ) ((unhide HRZ).below hX50_52) (OwnC.below (unhide HX) hX51_52) (unhide HY) (unhide HFX) (unhide HFY) (unhide HN) (Below.refl _ w52))
                        go_wp2_with fail
                        refine (unhide HC53).mono ?_
                        clear HC53
                        rintro e w53 ⟨vz, rfl, hOn, hb53⟩
                        have hX1_53 : Below w1.heap.size w1 w53 := bstep hX1_52 hb53
                        have hX5_53 : Below w5.heap.size w5 w53 := bstep hX5_52 hb53
                        have hX50_53 : Below w50.heap.size w50 w53 := bstep hX50_52 hb53
                        have hX51_53 : Below w51.heap.size w51 w53 := bstep hX51_52 hb53
                        have hX52_53 : Below w52.heap.size w52 w53 := hb53
                        obtain ⟨na, nc, rfl, _, _, hRn⟩ := hOn.shape
                        have HRn := hide hRn
                        clear hOn hRn
                        go_wp2
                        go_roundw
                        case rel => exact ⟨k + 1, z, na, nc, by omega, by go_num, rfl, unhide HRn, unhide HST (by first | rfl | trivial), by have := unhide HFN; rwa [show 10 + 2 * k + 2 = 10 + 2 * (k + 1) by omega] at this, hX5_53⟩
                        case measure => simp [intOf]; omega
                      · clear HAP
                        have HC51 := hide (unhide HAR w50 (bstep hX1_5 hB))
                        go_wp2_with fail
                        refine (unhide HC51).mono ?_
                        clear HC51
                        rintro e w51 ⟨vx, rfl, hX, hb51⟩
                        have hX1_51 : Below w1.heap.size w1 w51 := bstep (bstep hX1_5 hB) hb51
                        have hX5_51 : Below w5.heap.size w5 w51 := bstep hB hb51
                        have hX50_51 : Below w50.heap.size w50 w51 := hb51
                        obtain ⟨pa, pc, rfl, _⟩ := OwnC.shape hX
                        have HX := hide hX
                        clear hX
                        have HC52 := hide (unhide HBR w51 hX1_51)
                        go_wp2_with fail
                        refine (unhide HC52).mono ?_
                        clear HC52
                        rintro e w52 ⟨vy, rfl, hY, hb52⟩
                        have hX1_52 : Below w1.heap.size w1 w52 := bstep hX1_51 hb52
                        have hX5_52 : Below w5.heap.size w5 w52 := bstep hX5_51 hb52
                        have hX50_52 : Below w50.heap.size w50 w52 := bstep hX50_51 hb52
                        have hX51_52 : Below w51.heap.size w51 w52 := hb52
                        obtain ⟨qa, qc, rfl, _⟩ := OwnC.shape hY
                        have HY := hide hY
                        clear hY
                        have HC53 := hide (iU (k := 10 + 2 * k) (sc := zc) (by omega) (unhide HFZ) ((unhide HRZ).below hX50_52) (OwnC.below (unhide HX) hX51_52) (unhide HY) (unhide HFX) (unhide HFY) (unhide HN) (Below.refl _ w52))
                        go_wp2_with fail
                        refine (unhide HC53).mono ?_
                        clear HC53
                        rintro e w53 ⟨vz, rfl, hOn, hb53⟩
                        have hX1_53 : Below w1.heap.size w1 w53 := bstep hX1_52 hb53
                        have hX5_53 : Below w5.heap.size w5 w53 := bstep hX5_52 hb53
                        have hX50_53 : Below w50.heap.size w50 w53 := bstep hX50_52 hb53
                        have hX51_53 : Below w51.heap.size w51 w53 := bstep hX51_52 hb53
                        have hX52_53 : Below w52.heap.size w52 w53 := hb53
                        obtain ⟨na, nc, rfl, _, _, hRn⟩ := hOn.shape
                        have HRn := hide hRn
                        clear hOn hRn
                        go_wp2
                        go_ret
                        exact ⟨rfl, bstep hb1 hX1_53⟩
                      · clear HAP
                        have HC51 := hide (unhide HAR w50 (bstep hX1_5 hB))
                        go_wp2_with fail
                        refine (unhide HC51).mono ?_
                        clear HC51
                        rintro e w51 ⟨vx, rfl, hX, hb51⟩
                        have hX1_51 : Below w1.heap.size w1 w51 := bstep (bstep hX1_5 hB) hb51
                        have hX5_51 : Below w5.heap.size w5 w51 := bstep hB hb51
                        have hX50_51 : Below w50.heap.size w50 w51 := hb51
                        obtain ⟨pa, pc, rfl, _⟩ := OwnC.shape hX
                        have HX := hide hX
                        clear hX
                        have HC52 := hide (unhide HBR w51 hX1_51)
                        go_wp2_with fail
                        refine (unhide HC52).mono ?_
                        clear HC52
                        rintro e w52 ⟨vy, rfl, hY, hb52⟩
                        have hX1_52 : Below w1.heap.size w1 w52 := bstep hX1_51 hb52
                        have hX5_52 : Below w5.heap.size w5 w52 := bstep hX5_51 hb52
                        have hX50_52 : Below w50.heap.size w50 w52 := bstep hX50_51 hb52
                        have hX51_52 : Below w51.heap.size w51 w52 := hb52
                        obtain ⟨qa, qc, rfl, _⟩ := OwnC.shape hY
                        have HY := hide hY
                        clear hY
                        have HC53 := hide (iU (k := 10 + 2 * k) (sc := zc) (by omega) (unhide HFZ) ((unhide HRZ).below hX50_52) (OwnC.below (unhide HX) hX51_52) (unhide HY) (unhide HFX) (unhide HFY) (unhide HN) (Below.refl _ w52))
                        go_wp2_with fail
                        refine (unhide HC53).mono ?_
                        clear HC53
                        rintro e w53 ⟨vz, rfl, hOn, hb53⟩
                        have hX1_53 : Below w1.heap.size w1 w53 := bstep hX1_52 hb53
                        have hX5_53 : Below w5.heap.size w5 w53 := bstep hX5_52 hb53
                        have hX50_53 : Below w50.heap.size w50 w53 := bstep hX50_52 hb53
                        have hX51_53 : Below w51.heap.size w51 w53 := bstep hX51_52 hb53
                        have hX52_53 : Below w52.heap.size w52 w53 := hb53
                        obtain ⟨na, nc, rfl, _, _, hRn⟩ := hOn.shape
                        have HRn := hide hRn
                        clear hOn hRn
                        go_wp2
                        go_ret
                        exact ⟨rfl, bstep hb1 hX1_53⟩
                    · have hkx : k = xs.length := by omega
                      subst hkx
                      exact absurd rfl (args_done (unhide HXY) (unhide HC1) (unhide HTX) (unhide HTY) (unhide HI) (unhide HMM)).1
                · skip
                  have HC2 := hide (sO (sc := sc) (by omega) (unhide HF) (unhide HR) (Below.refl _ _) (unhide HSO))
                  go_wp2_with fail
                  refine (unhide HC2).mono ?_
                  clear HC2
                  rintro e w2 ⟨rfl, hb2⟩
                  have hX1_2 : Below w1.heap.size w1 w2 := hb2
                  have HC3 := hide (sT hla (unhide HA) (unhide HFA) hX1_2 (unhide HTA))
                  go_wp2_with fail
                  refine (unhide HC3).mono ?_
                  clear HC3
                  rintro e w3 ⟨rfl, hb3⟩
                  have hX1_3 : Below w1.heap.size w1 w3 := bstep hX1_2 hb3
                  have HC4 := hide (sT hlb (unhide HB) (unhide HFB) hX1_3 (unhide HTB))
                  go_wp2_with fail
                  refine (unhide HC4).mono ?_
                  clear HC4
                  rintro e w4 ⟨rfl, hb4⟩
                  have hX1_4 : Below w1.heap.size w1 w4 := bstep hX1_3 hb4
                  have a00 := (hX1_4.cell (p := ⟨ga, 0, none⟩) hgla).trans a0
                  have HC5 := hide (iU (sc := sc) (by omega) (unhide HF) (unhide HR) (unhide HA) (unhide HB) (unhide HFA) (unhide HFB) (unhide HM) hX1_4)
                  go_wp2_with fail
                  refine (unhide HC5).mono ?_
                  clear HC5
                  rintro e w5 ⟨v5, rfl, hOo, hb5⟩
                  have hX1_5 : Below w1.heap.size w1 w5 := bstep hX1_4 hb5
                  obtain ⟨oa, oc, rfl, _, _, hRo⟩ := hOo.shape
                  have HRo := hide hRo
                  clear hOo hRo
                  clear a00
                  have a00 := (hX1_5.cell (p := ⟨ga, 0, none⟩) hgla).trans a0
                  have a11 := (hX1_5.cell (p := ⟨ga, 1, none⟩) hgla).trans a1
                  have a22 := (hX1_5.cell (p := ⟨ga, 2, none⟩) hgla).trans a2
                  have b00 := (hX1_5.cell (p := ⟨gb, 0, none⟩) hglb).trans b0
                  have b11 := (hX1_5.cell (p := ⟨gb, 1, none⟩) hglb).trans b1
                  have b22 := (hX1_5.cell (p := ⟨gb, 2, none⟩) hglb).trans b2
                  go_wp2
                  go_quiet (fail)
                  go_wp2_with fail
                  refine (caOk_any _).mono ?_
                  rintro e w60 ⟨rfl, hb60⟩
                  go_wp2
                  go_ret
                  exact ⟨rfl, bstep hb1 (bstep (below_drewN hX1_5 _) hb60)⟩
              · have hneq := neq_cell d c
                have hsf : same d c = false := by
                  cases e : same d c with
                  | false => rfl
                  | true => exact absurd ((same_iff d c).1 e) hdc
                rw [hsf] at hneq
                have hna : hh ≠ 1 := by
                  have h1 := unhide HM
                  rw [unhide HAX, unhide HBY] at h1
                  exact names_apart (by rw [unhide HC3]; omega) (by rw [unhide HD3]; omega) (fun e => hdc e.symm) h1
                have hcd2 : hh = 2 ∨ hh = 3 := hcd.resolve_left hna
                clear hdc hsf hcd hna
                rcases hcd2 with rfl | rfl
                · skip
                  have HC2 := hide (sO (sc := sc) (by omega) (unhide HF) (unhide HR) (Below.refl _ _) (unhide HSO))
                  go_wp2_with fail
                  refine (unhide HC2).mono ?_
                  clear HC2
                  rintro e w2 ⟨rfl, hb2⟩
                  have hX1_2 : Below w1.heap.size w1 w2 := hb2
                  have HC3 := hide (sT hla (unhide HA) (unhide HFA) hX1_2 (unhide HTA))
                  go_wp2_with fail
                  refine (unhide HC3).mono ?_
                  clear HC3
                  rintro e w3 ⟨rfl, hb3⟩
                  have hX1_3 : Below w1.heap.size w1 w3 := bstep hX1_2 hb3
                  have HC4 := hide (sT hlb (unhide HB) (unhide HFB) hX1_3 (unhide HTB))
                  go_wp2_with fail
                  refine (unhide HC4).mono ?_
                  clear HC4
                  rintro e w4 ⟨rfl, hb4⟩
                  have hX1_4 : Below w1.heap.size w1 w4 := bstep hX1_3 hb4
                  have a00 := (hX1_4.cell (p := ⟨ga, 0, none⟩) hgla).trans a0
                  have HC5 := hide (iU (sc := sc) (by omega) (unhide HF) (unhide HR) (unhide HA) (unhide HB) (unhide HFA) (unhide HFB) (unhide HM) hX1_4)
                  go_wp2_with fail
                  refine (unhide HC5).mono ?_
                  clear HC5
                  rintro e w5 ⟨v5, rfl, hOo, hb5⟩
                  have hX1_5 : Below w1.heap.size w1 w5 := bstep hX1_4 hb5
                  obtain ⟨oa, oc, rfl, _, _, hRo⟩ := hOo.shape
                  have HRo := hide hRo
                  clear hOo hRo
                  clear a00
                  have a00 := (hX1_5.cell (p := ⟨ga, 0, none⟩) hgla).trans a0
                  have a11 := (hX1_5.cell (p := ⟨ga, 1, none⟩) hgla).trans a1
                  have a22 := (hX1_5.cell (p := ⟨ga, 2, none⟩) hgla).trans a2
                  have b00 := (hX1_5.cell (p := ⟨gb, 0, none⟩) hglb).trans b0
                  have b11 := (hX1_5.cell (p := ⟨gb, 1, none⟩) hglb).trans b1
                  have b22 := (hX1_5.cell (p := ⟨gb, 2, none⟩) hglb).trans b2
                  go_wp2
                  go_quiet (fail)
                  go_wp2
                  go_ret
                  exact ⟨rfl, bstep hb1 (below_drewN hX1_5 _)⟩
                · skip
                  have HC2 := hide (sO (sc := sc) (by omega) (unhide HF) (unhide HR) (Below.refl _ _) (unhide HSO))
                  go_wp2_with fail
                  refine (unhide HC2).mono ?_
                  clear HC2
                  rintro e w2 ⟨rfl, hb2⟩
                  have hX1_2 : Below w1.heap.size w1 w2 := hb2
                  have HC3 := hide (sT hla (unhide HA) (unhide HFA) hX1_2 (unhide HTA))
                  go_wp2_with fail
                  refine (unhide HC3).mono ?_
                  clear HC3
                  rintro e w3 ⟨rfl, hb3⟩
                  have hX1_3 : Below w1.heap.size w1 w3 := bstep hX1_2 hb3
                  have HC4 := hide (sT hlb (unhide HB) (unhide HFB) hX1_3 (unhide HTB))
                  go_wp2_with fail
                  refine (unhide HC4).mono ?_
                  clear HC4
                  rintro e w4 ⟨rfl, hb4⟩
                  have hX1_4 : Below w1.heap.size w1 w4 := bstep hX1_3 hb4
                  have a00 := (hX1_4.cell (p := ⟨ga, 0, none⟩) hgla).trans a0
                  have HC5 := hide (iU (sc := sc) (by omega) (unhide HF) (unhide HR) (unhide HA) (unhide HB) (unhide HFA) (unhide HFB) (unhide HM) hX1_4)
                  go_wp2_with fail
                  refine (unhide HC5).mono ?_
                  clear HC5
                  rintro e w5 ⟨v5, rfl, hOo, hb5⟩
                  have hX1_5 : Below w1.heap.size w1 w5 := bstep hX1_4 hb5
                  obtain ⟨oa, oc, rfl, _, _, hRo⟩ := hOo.shape
                  have HRo := hide hRo
                  clear hOo hRo
                  clear a00
                  have a00 := (hX1_5.cell (p := ⟨ga, 0, none⟩) hgla).trans a0
                  have a11 := (hX1_5.cell (p := ⟨ga, 1, none⟩) hgla).trans a1
                  have a22 := (hX1_5.cell (p := ⟨ga, 2, none⟩) hgla).trans a2
                  have b00 := (hX1_5.cell (p := ⟨gb, 0, none⟩) hglb).trans b0
                  have b11 := (hX1_5.cell (p := ⟨gb, 1, none⟩) hglb).trans b1
                  have b22 := (hX1_5.cell (p := ⟨gb, 2, none⟩) hglb).trans b2
                  go_wp2
                  go_quiet (fail)
                  go_wp2
                  go_ret
                  exact ⟨rfl, bstep hb1 (below_drewN hX1_5 _)⟩
            · have hd3b : (d.k == 3) = false := by simpa using hd3
              have hd3n : (d.k != 3) = true := by simpa using hd3
              clear hd3 hcd
              have HC2 := hide (sO (sc := sc) (by omega) (unhide HF) (unhide HR) (Below.refl _ _) (unhide HSO))
              go_wp2_with fail
              refine (unhide HC2).mono ?_
              clear HC2
              rintro e w2 ⟨rfl, hb2⟩
              have hX1_2 : Below w1.heap.size w1 w2 := hb2
              have HC3 := hide (sT hla (unhide HA) (unhide HFA) hX1_2 (unhide HTA))
              go_wp2_with fail
              refine (unhide HC3).mono ?_
              clear HC3
              rintro e w3 ⟨rfl, hb3⟩
              have hX1_3 : Below w1.heap.size w1 w3 := bstep hX1_2 hb3
              have HC4 := hide (sT hlb (unhide HB) (unhide HFB) hX1_3 (unhide HTB))
              go_wp2_with fail
              refine (unhide HC4).mono ?_
              clear HC4
              rintro e w4 ⟨rfl, hb4⟩
              have hX1_4 : Below w1.heap.size w1 w4 := bstep hX1_3 hb4
              have a00 := (hX1_4.cell (p := ⟨ga, 0, none⟩) hgla).trans a0
              have HC5 := hide (iU (sc := sc) (by omega) (unhide HF) (unhide HR) (unhide HA) (unhide HB) (unhide HFA) (unhide HFB) (unhide HM) hX1_4)
              go_wp2_with fail
              refine (unhide HC5).mono ?_
              clear HC5
              rintro e w5 ⟨v5, rfl, hOo, hb5⟩
              have hX1_5 : Below w1.heap.size w1 w5 := bstep hX1_4 hb5
              obtain ⟨oa, oc, rfl, _, _, hRo⟩ := hOo.shape
              have HRo := hide hRo
              clear hOo hRo
              clear a00
              have a00 := (hX1_5.cell (p := ⟨ga, 0, none⟩) hgla).trans a0
              have a11 := (hX1_5.cell (p := ⟨ga, 1, none⟩) hgla).trans a1
              have a22 := (hX1_5.cell (p := ⟨ga, 2, none⟩) hgla).trans a2
              have b00 := (hX1_5.cell (p := ⟨gb, 0, none⟩) hglb).trans b0
              have b11 := (hX1_5.cell (p := ⟨gb, 1, none⟩) hglb).trans b1
              have b22 := (hX1_5.cell (p := ⟨gb, 2, none⟩) hglb).trans b2
              go_wp2
              go_quiet (fail)
              go_wp2_with fail
              refine (caOk_any _).mono ?_
              rintro e w60 ⟨rfl, hb60⟩
              go_wp2
              go_ret
              exact ⟨rfl, bstep hb1 (bstep (below_drewN hX1_5 _) hb60)⟩
          · have hc3b : (c.k != 3) = true := by simpa using hc3
            clear hc3
            have HC2 := hide (sO (sc := sc) (by omega) (unhide HF) (unhide HR) (Below.refl _ _) (unhide HSO))
            go_wp2_with fail
            refine (unhide HC2).mono ?_
            clear HC2
            rintro e w2 ⟨rfl, hb2⟩
            have hX1_2 : Below w1.heap.size w1 w2 := hb2
            have HC3 := hide (sT hla (unhide HA) (unhide HFA) hX1_2 (unhide HTA))
            go_wp2_with fail
            refine (unhide HC3).mono ?_
            clear HC3
            rintro e w3 ⟨rfl, hb3⟩
            have hX1_3 : Below w1.heap.size w1 w3 := bstep hX1_2 hb3
            have HC4 := hide (sT hlb (unhide HB) (unhide HFB) hX1_3 (unhide HTB))
            go_wp2_with fail
            refine (unhide HC4).mono ?_
            clear HC4
            rintro e w4 ⟨rfl, hb4⟩
            have hX1_4 : Below w1.heap.size w1 w4 := bstep hX1_3 hb4
            have a00 := (hX1_4.cell (p := ⟨ga, 0, none⟩) hgla).trans a0
            have HC5 := hide (caOk_any w4)
            go_wp2_with fail
            refine (unhide HC5).mono ?_
            clear HC5
            rintro e w5 ⟨rfl, hb5⟩
            have hX1_5 : Below w1.heap.size w1 w5 := bstep hX1_4 hb5
            go_wp2
            go_ret
            exact ⟨rfl, bstep hb1 hX1_5⟩
  · have hbb : decide ((len : Int) > 1048576) = true := by simp; omega
    go_enter Try.func13, Try.ntmps13
    go_wp2
    go_ret
    exact ⟨rfl, Below.refl _ _⟩
end Go.Proofs.Ytddhjafpacgdaaa
