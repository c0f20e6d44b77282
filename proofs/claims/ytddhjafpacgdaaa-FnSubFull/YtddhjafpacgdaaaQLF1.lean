/- What is drawn for SubFull; the walk of the law FnSubFull: what is full has nothing that is bound. -/
import Derived.Test.YtddhjafpacgdaaaQUF4CB1L1LU1
import Derived.Test.YtddhjafpacgdaaaQPlain3Plain6PT3PT4W16
import Derived.Test.YtddhjafpacgdaaaQD4SG1SL1
import Derived.Deep.RegionHeld3
import Derived.Deep.QuietTactic
import Derived.BigQuiet
namespace Go.Proofs.Ytddhjafpacgdaaa
open Go.RowKit
set_option linter.unusedVariables false
set_option linter.unusedSimpArgs false

set_option maxRecDepth 100000 in
set_option maxHeartbeats 1000000 in
theorem drawSubFull_any (ao : Option Addr) (len cap : Nat) (z : Nat → Int) (w : World) (h : Bin w ao len cap z) :
    Calls Try.prog 41 #[.slice ao len cap] w fun e w' => ∃ v s x t, e = .returned (.tuple #[v, x]) ∧ OwnB w' w.heap.size w'.heap.size v s ∧ FewB s ∧ OwnC w' w.heap.size x t ∧ t.length ≤ 41 ∧ (∀ c ∈ t, Dc c) ∧ Below w.heap.size w w' := by
  go_enter Try.func41, Try.ntmps41
  go_wp2_with fail
  refine (open_any ao len cap z _ h).mono ?_
  rintro e w1 ⟨rfl, hR1, hb1⟩
  have hl1 := hR1.lt
  go_wp2_with fail
  refine (bindsOr_any w.heap.size 0 14 _ (by omega) (by omega) (by omega) hR1).mono ?_
  rintro e w2 ⟨v, s, p2, rfl, hO2, hF2, hR2, hp2, hG2⟩
  have HF2 := hide hF2
  have hs2 := hG2.size
  clear hF2
  go_wp2_with fail
  refine (termOr_any w.heap.size p2 14 _ (by omega) (by omega) (by omega) hR2).mono ?_
  rintro e w3 ⟨x, t, p3, rfl, hO3, _, hlt, hDt, hR3, hp3, hG3⟩
  have hs3 := hG3.size
  have HFIN : Hid (OwnB w3 w.heap.size w3.heap.size v s ∧ FewB s ∧ OwnC w3 w.heap.size x t ∧ t.length ≤ 41 ∧ (∀ c ∈ t, Dc c) ∧ Below w.heap.size w w3) := ⟨((hO2.grown (Nat.le_refl _) hG3 (fun k e => .inl (by cases e; exact hl1))).hi_le hs3).lo_le (by omega), unhide HF2, hO3.base (by omega), hlt, hDt, (hb1.grown hG2 (by omega) (fun k e => by cases e; exact Nat.le_refl _)).grown hG3 (by omega) (fun k e => by cases e; exact Nat.le_refl _)⟩
  clear hO2 hR2 hG2 hO3 hR3 hG3 hR1 hb1 hDt
  go_wp2
  go_ret2
  exact ⟨v, s, x, t, rfl, unhide HFIN⟩

theorem sF {k base : Nat} {s : List B} {a : List C} {sa xa : Option Addr} {sc xc : Nat} {w W : World} (hk : k ≤ 200) (hF : FewK k s) (hA : RowB w sa s) (la : a.length ≤ 41) (ha : OwnC w base (.slice xa a.length xc) a) (fa : Fit a) (hB : Below w.heap.size w W) {r : Option (List C)} (e : fullB s a = r) :
    Calls Try.prog 42 #[.slice sa s.length sc, .slice xa a.length xc] W (FOut r W) := by
  subst e
  exact specSubFull_any sa sc s xa xc a W (hF.len6 hk) (hF.tot hk) (len41 la) (hA.below hB) hF.fit (OwnC.row (OwnC.below ha hB)) fa
theorem iFr {k : Nat} {s : List B} {a : List C} {sa xa : Option Addr} {sc xc : Nat} {W : World} (hk : k ≤ 200) (hF : FewK k s) (hA : RowB W sa s) (h1 : a.length ≤ xc) (h2 : xc ≤ maxLen) (ha : Row W xa a) (fa : Fit a) {r : Option (List C)} (e : fullB s a = r) :
    Calls Try.prog 40 #[.slice sa s.length sc, .slice xa a.length xc] W (FOut r W) := by
  subst e
  exact implSubFull_any sa sc s xa xc a W (hF.len6 hk) (hF.tot hk) h1 h2 hA hF.fit ha fa
theorem fout_some {x : List C} {w : World} {e : Ending} {w' : World} (h : FOut (some x) w e w') : ∃ ya yc, e = .returned (.tuple #[.slice ya x.length yc, .bool true]) ∧ OwnC w' w.heap.size (.slice ya x.length yc) x ∧ Below w.heap.size w w' := by
  obtain ⟨v, h1, rfl, h2⟩ := h
  obtain ⟨ya, yc, rfl, _⟩ := OwnC.shape (t := x) h1
  exact ⟨ya, yc, rfl, h1, h2⟩
theorem fout_none {w : World} {e : Ending} {w' : World} (h : FOut none w e w') : ∃ ya yc, e = .returned (.tuple #[.slice ya 0 yc, .bool false]) ∧ OwnC w' w.heap.size (.slice ya 0 yc) [] ∧ Below w.heap.size w w' := by
  obtain ⟨v, h1, rfl, h2⟩ := h
  obtain ⟨ya, yc, rfl, _⟩ := OwnC.shape (t := []) h1
  exact ⟨ya, yc, rfl, h1, h2⟩
/-- A call whose list is one of two ways, with its word. -/
theorem fout_any {r : Option (List C)} {w : World} {e : Ending} {w' : World} (h : FOut r w e w') : ∃ ya yc, e = .returned (.tuple #[.slice ya (r.getD []).length yc, .bool r.isSome]) ∧ OwnC w' w.heap.size (.slice ya (r.getD []).length yc) (r.getD []) ∧ Below w.heap.size w w' := by
  obtain ⟨v, h1, rfl, h2⟩ := h
  obtain ⟨ya, yc, rfl, _⟩ := OwnC.shape (t := r.getD []) h1
  exact ⟨ya, yc, rfl, h1, h2⟩

/-- What is full: once more it is that; no variable of it is bound. -/
theorem full_again {s : List B} {t x : List C} (h : fullB s t = some x) : subOk s = true ∧ trm t = true ∧ fullB s x = some x ∧ ∀ v ∈ freeOf x, getB s v = [] := by
  have hc : subOk s = true ∧ trm t = true := Classical.byContradiction fun hn => by unfold fullB at h; rw [if_neg hn] at h; cases h
  obtain ⟨n, hE⟩ := exp_ev (subOk_okB hc.1) (trm_Trm hc.2).2
  have hx : x = app (ev s) t ∧ (app (ev s) t).length ≤ 40 := by
    rw [fullB_ev hc.1 hc.2] at h
    split at h
    · rename_i hl; cases h; exact ⟨rfl, hl⟩
    · cases h
  obtain ⟨rfl, hl⟩ := hx
  have ht := app_trm hc.1 hc.2 hl
  have hfree := hE.free
  refine ⟨hc.1, hc.2, ?_, fun v hv => ?_⟩
  · have e := exp_app (Exp.self hfree) (trm_Trm ht).2
    rw [fullB_ev hc.1 ht, ← e, if_pos hl]
  · obtain ⟨c, hcm, hk, rfl⟩ := mem_freeV.1 hv
    exact hfree c hcm hk
/-- A variable that is bound is what it is bound to. -/
theorem full_var {s : List B} (hs : subOk s = true) {k : Nat} (hk : k < s.length) : fullB s [⟨1, s[k].v, ByteArray.mk #[]⟩] = fullB s s[k].t ∧ getB s s[k].v = s[k].t := by
  have hg := subOk_good hs
  have hr := hg.range _ (List.getElem_mem hk)
  have ht := (subOk_parts hs).2 _ (List.getElem_mem hk)
  have e1 := getB_of hg.ok.once (List.getElem_mem hk)
  refine ⟨?_, e1⟩
  have hv : trm [(⟨1, s[k].v, ByteArray.mk #[]⟩ : C)] = true := tree_trm (f := 1) ⟨⟨1, s[k].v, ByteArray.mk #[]⟩, [], rfl, by simp [ari], fun q h => by simp at h⟩ (by simp) (fun c hc => by
    simp at hc; subst hc
    simp only [okC, if_true]
    simp [hr.1, hr.2]
    rfl)
  have e2 := sol_ev hg.ok s[k].v (by rw [e1]; exact (trm_Trm ht).ne)
  rw [e1] at e2
  rw [fullB_ev hs hv, fullB_ev hs ht]
  have e3 : app (ev s) [(⟨1, s[k].v, ByteArray.mk #[]⟩ : C)] = app (ev s) s[k].t := by
    rw [app_var (c := ⟨1, s[k].v, ByteArray.mk #[]⟩) rfl]
    exact e2
  rw [e3]

set_option maxRecDepth 100000 in
set_option maxHeartbeats 4000000 in
theorem FnSubFull_walk (ao : Option Addr) (len cap : Nat) (z : Nat → Int) (w : World) (h : Bin w ao len cap z) :
    Calls Try.prog 9 #[.slice ao len cap] w fun e w' => e = .returned (.bool true) ∧ Below w.heap.size w w' := by
  have hmx : len ≤ 9223372036854775807 := by have := h.1; have := h.2.1; unfold maxLen at this; omega
  by_cases hbig : len ≤ 1048576
  · go_enter Try.func9, Try.ntmps9
    go_wp2_with fail
    refine (drawSubFull_any ao len cap z _ h).mono ?_
    rintro e w1 ⟨v, s, x, a, rfl, hO1, hF, hA1, hla, hDa, hb1⟩
    have HF := hide hF
    have HFA := hide (dc_fit hDa).1
    obtain ⟨sa, sc, rfl, _, _, hR1⟩ := hO1.shape
    obtain ⟨xa, xc, rfl, _⟩ := hA1.shape
    have HR := hide hR1
    have HA := hide hA1
    clear hF hDa hO1 hR1 hA1 h
    cases hf : fullB s a with
    | none =>
      have HFN := hide hf
      clear hf
      have HC2 := hide (iFr (s := s) (a := a) (sc := sc) (xc := xc) (W := w1) (by omega) (unhide HF) ((unhide HR).below (Below.refl _ _)) (own_caps (unhide HA)).1 (own_caps (unhide HA)).2 (OwnC.row (OwnC.below (unhide HA) (Below.refl _ _))) (unhide HFA) (unhide HFN))
      go_wp2_with fail
      refine (unhide HC2).mono ?_
      clear HC2
      intro e w2 hq
      obtain ⟨Ua, Uc, rfl, hU, hb2⟩ := fout_none hq
      have HU := hide hU
      clear hU hq
      have hX1_2 : Below w1.heap.size w1 w2 := hb2
      have HC3 := hide (sF (sc := sc) (by omega) (unhide HF) (unhide HR) hla (unhide HA) (unhide HFA) hX1_2 (unhide HFN))
      go_wp2_with fail
      refine (unhide HC3).mono ?_
      clear HC3
      intro e w3 hq
      obtain ⟨Va, Vc, rfl, hU, hb3⟩ := fout_none hq
      have HV := hide hU
      clear hU hq
      have hX1_3 : Below w1.heap.size w1 w3 := bstep hX1_2 hb3
      have hX2_3 : Below w2.heap.size w2 w3 := hb3
      have HC4 := hide (cT (a := []) (xc := Uc) (yc := Vc) (by simp) (OwnC.below (unhide HU) hX2_3) (unhide HV))
      go_wp2_with fail
      refine (unhide HC4).mono ?_
      clear HC4
      rintro e w4 ⟨rfl, hb4⟩
      have hX1_4 : Below w1.heap.size w1 w4 := bstep hX1_3 hb4
      have hX2_4 : Below w2.heap.size w2 w4 := bstep hX2_3 hb4
      have hX3_4 : Below w3.heap.size w3 w4 := hb4
      have HC5 := hide (caOk_any w4)
      go_wp2_with fail
      refine (unhide HC5).mono ?_
      clear HC5
      rintro e w5 ⟨rfl, hb5⟩
      have hX1_5 : Below w1.heap.size w1 w5 := bstep hX1_4 hb5
      have hX2_5 : Below w2.heap.size w2 w5 := bstep hX2_4 hb5
      have hX3_5 : Below w3.heap.size w3 w5 := bstep hX3_4 hb5
      go_wp2
      go_ret
      exact ⟨rfl, bstep hb1 hX1_5⟩
    | some X =>
      obtain ⟨hso, hta, hag, hfr⟩ := full_again hf
      have hXt := (fullB_some hf).1
      have hXl : X.length ≤ 41 := by have := (fullB_some hf).2.1; omega
      have HFX := hide (fullB_some hf).2.2
      have HWX := hide (wf_trm hXt)
      have HXT := hide hXt
      have HAG := hide hag
      have HFR := hide hfr
      have HFN := hide hf
      have HSO := hide hso
      clear hso hta hag hfr hf hXt
      have HC2 := hide (iFr (s := s) (a := a) (sc := sc) (xc := xc) (W := w1) (by omega) (unhide HF) ((unhide HR).below (Below.refl _ _)) (own_caps (unhide HA)).1 (own_caps (unhide HA)).2 (OwnC.row (OwnC.below (unhide HA) (Below.refl _ _))) (unhide HFA) (unhide HFN))
      go_wp2_with fail
      refine (unhide HC2).mono ?_
      clear HC2
      intro e w2 hq
      obtain ⟨Ua, Uc, rfl, hU, hb2⟩ := fout_some hq
      have HU := hide hU
      clear hU hq
      have hX1_2 : Below w1.heap.size w1 w2 := hb2
      have HC3 := hide (sF (sc := sc) (by omega) (unhide HF) (unhide HR) hla (unhide HA) (unhide HFA) hX1_2 (unhide HFN))
      go_wp2_with fail
      refine (unhide HC3).mono ?_
      clear HC3
      intro e w3 hq
      obtain ⟨Va, Vc, rfl, hU, hb3⟩ := fout_some hq
      have HV := hide hU
      clear hU hq
      have hX1_3 : Below w1.heap.size w1 w3 := bstep hX1_2 hb3
      have hX2_3 : Below w2.heap.size w2 w3 := hb3
      have HC4 := hide (cT hXl (OwnC.below (unhide HU) hX2_3) (unhide HV))
      go_wp2_with fail
      refine (unhide HC4).mono ?_
      clear HC4
      rintro e w4 ⟨rfl, hb4⟩
      have hX1_4 : Below w1.heap.size w1 w4 := bstep hX1_3 hb4
      have hX2_4 : Below w2.heap.size w2 w4 := bstep hX2_3 hb4
      have hX3_4 : Below w3.heap.size w3 w4 := hb4
      have HC5 := hide (iF1 (k := 10) (sc := sc) (by omega) (unhide HF) ((unhide HR).below hX1_4) (unhide HU) (unhide HFX) hX2_4 (unhide HAG))
      go_wp2_with fail
      refine (unhide HC5).mono ?_
      clear HC5
      rintro e w5 ⟨ga, gc, rfl, hG, hb5⟩
      have hX1_5 : Below w1.heap.size w1 w5 := bstep hX1_4 hb5
      have hX2_5 : Below w2.heap.size w2 w5 := bstep hX2_4 hb5
      have hX3_5 : Below w3.heap.size w3 w5 := bstep hX3_4 hb5
      have HG := hide hG
      clear hG
      have HC6 := hide (cT hXl (unhide HG) (OwnC.below (unhide HU) hX2_5))
      go_wp2_with fail
      refine (unhide HC6).mono ?_
      clear HC6
      rintro e w6 ⟨rfl, hb6⟩
      have hX1_6 : Below w1.heap.size w1 w6 := bstep hX1_5 hb6
      have hX2_6 : Below w2.heap.size w2 w6 := bstep hX2_5 hb6
      have hX3_6 : Below w3.heap.size w3 w6 := bstep hX3_5 hb6
      have hX5_6 : Below w5.heap.size w5 w6 := hb6
      have HC7 := hide (show Calls Try.prog 32 #[.slice Ua X.length Uc] w6 (fun e w' => e = .returned (.bool true) ∧ Below w6.heap.size w6 w') from by have := TrmOk_any Ua Uc X w6 (len41 hXl) (OwnC.row (OwnC.below (unhide HU) hX2_6)) (unhide HFX); rwa [unhide HXT] at this)
      go_wp2_with fail
      refine (unhide HC7).mono ?_
      clear HC7
      rintro e w7 ⟨rfl, hb7⟩
      have hX1_7 : Below w1.heap.size w1 w7 := bstep hX1_6 hb7
      have hX2_7 : Below w2.heap.size w2 w7 := bstep hX2_6 hb7
      have hX3_7 : Below w3.heap.size w3 w7 := bstep hX3_6 hb7
      have hX5_7 : Below w5.heap.size w5 w7 := bstep hX5_6 hb7
      have HC8 := hide (TrmFree_any Ua Uc X w7 (by omega) (OwnC.row (OwnC.below (unhide HU) hX2_7)) (unhide HWX))
      go_wp2_with fail
      refine (unhide HC8).mono ?_
      clear HC8
      rintro e w8 ⟨fv, rfl, hI, hb8⟩
      have hX1_8 : Below w1.heap.size w1 w8 := bstep hX1_7 hb8
      have hX2_8 : Below w2.heap.size w2 w8 := bstep hX2_7 hb8
      have hX3_8 : Below w3.heap.size w3 w8 := bstep hX3_7 hb8
      have hX5_8 : Below w5.heap.size w5 w8 := bstep hX5_7 hb8
      obtain ⟨fa, fc, rfl, hRI⟩ := hI.shape
      have HRI := hide hRI
      clear hI hRI
      have hfl : (freeOf X).length ≤ 41 := Nat.le_trans (freeOf_len X) hXl
      obtain ⟨fs, hfs⟩ : ∃ fs, fs = freeOf X := ⟨_, rfl⟩
      rw [← hfs] at HRI HFR hfl ⊢
      clear hfs
      have hsl : s.length ≤ 1048576 := (unhide HF).len6 (by omega)
      have HSH : Hid (∀ y ∈ s, y.t.length ≤ 1048576) := fun y hy => by have := (unhide HF).short y hy; omega
      go_wp2
      go_loopw [12] (fun i wr => ∃ (k : Nat), k ≤ fs.length ∧ i = .int .i64 k ∧ Below w8.heap.size w8 wr) (fun i _ => fs.length - (intOf i).toNat)
      case atStart => exact ⟨0, Nat.zero_le _, rfl, Below.refl _ _⟩
      case round =>
        obtain ⟨k, hk, rfl, hB⟩ := hrel
        by_cases hlt : k < fs.length
        · obtain ⟨fb, foff, rfl, hfA⟩ := (unhide HRI).resolve_left (fun e => by rw [e] at hlt; simp at hlt)
          have d0 := (hB.cell (p := ⟨fb, foff + k, none⟩) (World.block_lt_of_cell? w8 _ (hfA k hlt))).trans (hfA k hlt)
          have hu := unhide HFR _ (List.getElem_mem hlt)
          clear hfA
          generalize fs[k] = u at d0 hu
          have HC := hide (implSubGet_any sa sc s u wr ((unhide HF).len6 (by omega)) (unhide HSH) ((unhide HR).below (bstep hX1_8 hB)))
          rw [hu] at HC
          clear hu
          go_wp2_with fail
          refine (unhide HC).mono ?_
          rintro e w50 ⟨gv, rfl, hG, hb50⟩
          obtain ⟨ga', gc', rfl, _⟩ := OwnC.shape hG
          simp only [List.length_nil]
          go_wp2
          go_roundw
          case rel => exact ⟨k + 1, by omega, by go_num, bstep hB hb50⟩
          case measure => simp [intOf]; omega
        · have hB1 : Below w1.heap.size w1 wr := bstep hX1_8 hB
          clear hB hk
          go_wp2
          go_loopw [13] (fun i wq => ∃ (k : Nat), k ≤ s.length ∧ i = .int .i64 k ∧ Below w1.heap.size w1 wq) (fun i _ => s.length - (intOf i).toNat)
          case atStart => exact ⟨0, Nat.zero_le _, rfl, hB1⟩
          case round =>
            rename_i wr0
            obtain ⟨k, hk, rfl, hB⟩ := hrel
            by_cases hlt : k < s.length
            · rcases (unhide HR).below hB with h0 | ⟨bb, off, rfl, hA⟩
              · rw [h0] at hlt; simp at hlt
              obtain ⟨c0, ta, tc, c1, htc, htm, hRt⟩ := hA k hlt
              obtain ⟨e1, e2⟩ := full_var (unhide HSO) hlt
              have hyl := (unhide HF).short _ (List.getElem_mem hlt)
              have hyf := ((unhide HF).fit _ (List.getElem_mem hlt)).1
              clear hA
              generalize s[k] = y at c0 c1 htc hRt e1 e2 hyl hyf
              obtain ⟨r, hr⟩ : ∃ r, r = fullB s y.t := ⟨_, rfl⟩
              rw [← hr] at e1
              have HE1 := hide e1
              have HE2 := hide e2
              have HER := hide hr.symm
              have HYF := hide hyf
              have HRT := hide hRt
              have hrl : (r.getD []).length ≤ 41 := by
                cases r with
                | none => simp
                | some q => have := (fullB_some hr.symm).2.1; simp; omega
              clear e1 e2 hr hyf hRt
              have hbl : bb < wr.heap.size := World.block_lt_of_cell? wr ⟨bb, _, none⟩ c0
              have HC1 := hide (iFr (k := 10) (s := s) (a := [⟨1, y.v, ByteArray.mk #[]⟩]) (sc := sc) (xa := some ⟨wr.heap.size, 0, none⟩) (xc := 1) (W := wr.alloc (.cells #[.int .i64 1, .int .i64 y.v, .string (ByteArray.mk #[])] 36)) (by omega) (unhide HF) ((unhide HR).below (bstep hB (cell_below _ _))) (by simp) (by simp [maxLen]) (OwnC.row (ownC_one wr ⟨1, y.v, ByteArray.mk #[]⟩)) (fun c hc => by simp at hc; subst hc; show (0 : Nat) ≤ maxLen; exact Nat.zero_le _) (unhide HE1))
              simp only [List.length_cons, List.length_nil, Nat.zero_add] at HC1
              go_wp2_with fail
              refine (unhide HC1).mono ?_
              clear HC1
              intro e w51 hq
              obtain ⟨pa, pc, rfl, hP, hb51⟩ := fout_any hq
              have HP := hide hP
              clear hP hq
              have hbx1 : Below wr.heap.size wr w51 := bstep (cell_below _ _) hb51
              have c01 := (hbx1.cell (p := ⟨bb, off + k * 2, none⟩) hbl).trans c0
              have c11 := (hbx1.cell (p := ⟨bb, off + k * 2 + 1, none⟩) hbl).trans c1
              have HC2 := hide (iFr (k := 10) (s := s) (a := y.t) (sc := sc) (xa := ta) (xc := tc) (W := w51) (by omega) (unhide HF) ((unhide HR).below (bstep hB hbx1)) htc htm ((unhide HRT).below hbx1) (unhide HYF) (unhide HER))
              go_wp2_with fail
              refine (unhide HC2).mono ?_
              clear HC2
              intro e w52 hq
              obtain ⟨qa, qc, rfl, hQ, hb52⟩ := fout_any hq
              have HQ := hide hQ
              clear hQ hq
              have hbx2 : Below wr.heap.size wr w52 := bstep hbx1 hb52
              have hbl2 : bb < w52.heap.size := Nat.lt_of_lt_of_le hbl hbx2.size
              have c02 := (hbx2.cell (p := ⟨bb, off + k * 2, none⟩) hbl).trans c0
              have c12 := (hbx2.cell (p := ⟨bb, off + k * 2 + 1, none⟩) hbl).trans c1
              clear c0 c1 c01 c11
              have hrr : (r.isSome != r.isSome) = false := by simp
              obtain ⟨rl, hrle⟩ : ∃ rl, rl = r.getD [] := ⟨_, rfl⟩
              rw [← hrle] at HP HQ hrl ⊢
              clear hrle
              generalize r.isSome = rb at hrr ⊢
              have HG0 := hide (fun (W : World) (hW : Below w52.heap.size w52 W) => implSubGet_any (some ⟨bb, off, none⟩) sc s y.v W ((unhide HF).len6 (by omega)) (unhide HSH) ((unhide HR).below (bstep (bstep hB hbx2) hW)))
              rw [unhide HE2] at HG0
              have hyl2 : y.t.length ≤ 41 := hyl
              have hbd : Below w52.heap.size w52 w52.drew := (Below.refl _ _).drew
              have HCT := hide (cT (a := rl) (xa := pa) (ya := qa) (xc := pc) (yc := qc) (W := w52.drew) hrl (OwnC.below (unhide HP) hb52.drew) (OwnC.below (unhide HQ) hbd))
              have HRT2 := hide ((unhide HRT).below hbx2.drew)
              clear HP HQ HRT HE1 HER
              cases rb with
              | false =>
                go_wp2
                go_region_held3 (fun w' => w'.cell? ⟨bb, off + k * 2, none⟩ = some (.int .i64 y.v) ∧ w'.cell? ⟨bb, off + k * 2 + 1, none⟩ = some (.slice ta y.t.length tc)) (first | (refine ⟨?_, ?_⟩ <;> assumption) | go_keep) (first | (go_at_call 26; have hx54 := hb54; refine (caTerm_any g4a ta g4c tc y.t y.t w54 (len41 hyl2) (OwnC.row (unhide HG4)) (Row.below (unhide HRT2) (bstep hb53 hb54))).mono ?_; rw [sameS_yes rfl]; rintro e w55 ⟨rfl, hb55⟩; have u0 := (hb55.cell (p := ⟨bb, off + k * 2, none⟩) hbl4).trans s0; have u1 := (hb55.cell (p := ⟨bb, off + k * 2 + 1, none⟩) hbl4).trans s1) | (go_at_call 43; refine (unhide HG0 w53 (hbd.trans hb53)).mono ?_; rintro e w54 ⟨g4, rfl, hG4, hb54⟩; obtain ⟨g4a, g4c, rfl, _⟩ := OwnC.shape hG4; have s0 := (hb54.cell (p := ⟨bb, off + k * 2, none⟩) hbl3).trans r0; have s1 := (hb54.cell (p := ⟨bb, off + k * 2 + 1, none⟩) hbl3).trans r1; have hbl4 : bb < w54.heap.size := World.block_lt_of_cell? w54 ⟨bb, _, none⟩ s0; have HG4 := hide hG4; clear hG4) | (go_at_call 26; refine (unhide HCT).mono ?_; rintro e w53 ⟨rfl, hb53⟩; have r0 := (hb53.cell (p := ⟨bb, off + k * 2, none⟩) hbl2).trans c02; have r1 := (hb53.cell (p := ⟨bb, off + k * 2 + 1, none⟩) hbl2).trans c12; have hbl3 : bb < w53.heap.size := World.block_lt_of_cell? w53 ⟨bb, _, none⟩ r0))
                go_wp2
                go_roundw
                case rel => exact ⟨k + 1, by omega, by go_num, bstep (bstep (bstep (bstep hB hbx2.drew) hb53) hb54) hb55⟩
                case measure => simp [intOf]; omega
              | true =>
                go_wp2
                go_region_held3 (fun w' => w'.cell? ⟨bb, off + k * 2, none⟩ = some (.int .i64 y.v) ∧ w'.cell? ⟨bb, off + k * 2 + 1, none⟩ = some (.slice ta y.t.length tc)) (first | (refine ⟨?_, ?_⟩ <;> assumption) | go_keep) (first | (go_at_call 26; have hx54 := hb54; refine (caTerm_any g4a ta g4c tc y.t y.t w54 (len41 hyl2) (OwnC.row (unhide HG4)) (Row.below (unhide HRT2) (bstep hb53 hb54))).mono ?_; rw [sameS_yes rfl]; rintro e w55 ⟨rfl, hb55⟩; have u0 := (hb55.cell (p := ⟨bb, off + k * 2, none⟩) hbl4).trans s0; have u1 := (hb55.cell (p := ⟨bb, off + k * 2 + 1, none⟩) hbl4).trans s1) | (go_at_call 43; refine (unhide HG0 w53 (hbd.trans hb53)).mono ?_; rintro e w54 ⟨g4, rfl, hG4, hb54⟩; obtain ⟨g4a, g4c, rfl, _⟩ := OwnC.shape hG4; have s0 := (hb54.cell (p := ⟨bb, off + k * 2, none⟩) hbl3).trans r0; have s1 := (hb54.cell (p := ⟨bb, off + k * 2 + 1, none⟩) hbl3).trans r1; have hbl4 : bb < w54.heap.size := World.block_lt_of_cell? w54 ⟨bb, _, none⟩ s0; have HG4 := hide hG4; clear hG4) | (go_at_call 26; refine (unhide HCT).mono ?_; rintro e w53 ⟨rfl, hb53⟩; have r0 := (hb53.cell (p := ⟨bb, off + k * 2, none⟩) hbl2).trans c02; have r1 := (hb53.cell (p := ⟨bb, off + k * 2 + 1, none⟩) hbl2).trans c12; have hbl3 : bb < w53.heap.size := World.block_lt_of_cell? w53 ⟨bb, _, none⟩ r0))
                go_wp2
                go_roundw
                case rel => exact ⟨k + 1, by omega, by go_num, bstep (bstep (bstep (bstep hB hbx2.drew) hb53) hb54) hb55⟩
                case measure => simp [intOf]; omega
            · go_wp2
              go_ret
              exact ⟨rfl, bstep hb1 hB⟩
  · have hbb : decide ((len : Int) > 1048576) = true := by simp; omega
    go_enter Try.func9, Try.ntmps9
    go_wp2
    go_ret
    exact ⟨rfl, Below.refl _ _⟩
end Go.Proofs.Ytddhjafpacgdaaa
