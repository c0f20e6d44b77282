import Derived.Test.YtjjpmlcaapedhaaDoorQSX5
import Derived.Test.YtjjpmlcaapedhaaDoorQW10W13
import Derived.Test.YtjjpmlcaapedhaaDoorQTX8PF1BT2
/- The walk of FnExactTrmRead. -/
namespace Go.Proofs.YtjjpmlcaapedhaaDoor
open Go.RowKit
set_option linter.unusedVariables false
set_option linter.unusedSimpArgs false

theorem rdX_len (l : List UInt8) : ((rdX l).getD []).length ≤ 40 := by
  cases h : rdX l with
  | none => simp
  | some t => exact ((trm_iff t).1 (rdX_back h).1).2.1

set_option maxRecDepth 100000 in
set_option maxHeartbeats 4000000 in
theorem FnExactTrmRead_walk (s : ByteArray) (w : World) (hsz : s.size ≤ maxLen) (hT : TenT w) (hE : ErrG w) :
    Calls Tryd.prog 4 #[.string s] w fun e w' => e = .returned (.bool true) ∧ Below w.heap.size w w' := by
  obtain ⟨l, rfl⟩ : ∃ l, s = mkS l := ⟨bl s, (mkS_bl s).symm⟩
  have hs := mkS_size l
  rw [hs] at hsz
  by_cases hbig : l.length ≤ 1048576
  · have HS := hide (fun (W : World) => specTrmRead_any l W (by omega))
    have HI := hide (fun (W : World) (hB : Below w.heap.size w W) => implTrmRead_any l W (by omega) (hE.below hB) (hT.below hB))
    have htl := rdX_len l
    obtain ⟨t, ht⟩ : ∃ t, t = (rdX l).getD [] := ⟨_, rfl⟩
    obtain ⟨f, hf⟩ : ∃ f, f = (rdX l).isSome := ⟨_, rfl⟩
    have HR := hide (show ∀ (W : World) (e : Ending) (W' : World), ReadOut l W e W' → ∃ v, e = .returned (.tuple #[v, .bool f]) ∧ OwnC W' W.heap.size v t ∧ Below W.heap.size W W' from fun W e W' h => by rw [hf, ht]; exact h)
    rw [← ht] at htl
    clear ht hf hT hE
    have htm : t.length ≤ maxLen := by unfold maxLen; omega
    have ht2 : t.length ≤ 1048576 := by omega
    have hff : (f != f) = false := by simp
    go_enter Tryd.func4, Tryd.ntmps4
    go_wp2_with fail
    refine (unhide HS w).mono ?_
    intro e w2 hTk
    obtain ⟨v0, rfl, hv0, hB2⟩ := unhide HR _ _ _ hTk
    clear hTk
    obtain ⟨ao0, cap0, rfl, _⟩ := hv0.shape
    go_wp2_with fail
    refine (unhide HI w2 hB2).mono ?_
    intro e w4 hTk
    obtain ⟨v1, rfl, hv1, hb4⟩ := unhide HR _ _ _ hTk
    clear hTk
    have hB4 := bstep hB2 hb4
    obtain ⟨ao1, cap1, rfl, _⟩ := hv1.shape
    go_wp2_with fail
    refine (eqTrmCellS_any _ _ _ _ t t _ htm (OwnC.row hv1) (OwnC.row (hv0.below hb4))).mono ?_
    rw [sameS_yes rfl]
    rintro e w5 ⟨rfl, hb5⟩
    have hB5 := bstep hB4 hb5
    have hC5 := bstep hb4 hb5
    have hg5 := hv1.below hb5
    go_wp2_with fail
    refine (markTrmCellS_one _ _ t w2.heap.size _ ht2 hg5).mono ?_
    rintro e w10 ⟨rfl, hg10, hG10⟩
    have hB10 := below_row hB5 hG10 hg5 hB2.size
    have hC10 := below_row hC5 hG10 hg5 (Nat.le_refl _)
    have hpos2 : ¬ ((1 + 3 * (t.length : Int)) < 0) := by omega
    have hne2 : ((1 + 3 * (t.length : Int)) != (1 + 3 * (t.length : Int))) = false := by simp
    go_wp2_with fail
    refine (heldTrmCellS_one _ _ t.length _ ht2 hg10.row).mono ?_
    rintro e w11 ⟨rfl, hb11⟩
    have hB11 := bstep hB10 hb11
    have hC11 := bstep hC10 hb11
    have hg11 := hg10.below hb11
    go_wp2_with fail
    refine (unhide HI w11 hB11).mono ?_
    intro e w13 hTk
    obtain ⟨v2, rfl, hv2, hb13⟩ := unhide HR _ _ _ hTk
    clear hTk
    have hB13 := bstep hB11 hb13
    have hC13 := bstep hC11 hb13
    obtain ⟨ao2, cap2, rfl, _⟩ := hv2.shape
    go_wp2_with fail
    refine (eqTrmCellS_any _ _ _ _ t t _ htm (OwnC.row hv2) (OwnC.row (hv0.below hC13))).mono ?_
    rw [sameS_yes rfl]
    rintro e w14 ⟨rfl, hb14⟩
    have hB14 := bstep hB13 hb14
    have hg14 := hg11.below (bstep hb13 hb14)
    go_wp2_with fail
    refine (heldTrmCellS_one _ _ t.length _ ht2 hg14.row).mono ?_
    rintro e w15 ⟨rfl, hb15⟩
    go_wp2
    go_ret
    exact ⟨rfl, bstep hB14 hb15⟩
  · go_enter Tryd.func4, Tryd.ntmps4
    go_wp2
    go_ret
    exact ⟨rfl, Below.refl _ _⟩
end Go.Proofs.YtjjpmlcaapedhaaDoor

/- The walk of FnTrmText. -/
namespace Go.Proofs.YtjjpmlcaapedhaaDoor
open Go.RowKit
set_option linter.unusedVariables false
set_option linter.unusedSimpArgs false

theorem bin_below3 {w w' : World} {a : Option Addr} {len cap : Nat} {z : Nat → Int} (h : Bin w a len cap z) (hb : Below w.heap.size w w') : Bin w' a len cap z := by
  obtain ⟨h1, h2, h3, h4⟩ := h
  refine ⟨h1, h2, h3, ?_⟩
  rcases h4 with h4 | ⟨b, off, e, hc⟩
  · exact .inl h4
  · exact .inr ⟨b, off, e, fun i hi => (hb.cell (p := ⟨b, off + i, none⟩) (World.block_lt_of_cell? w _ (hc i hi))).trans (hc i hi)⟩
theorem toList_same (s : ByteArray) : (s.toList == s.toList) = true := by simp

set_option maxRecDepth 100000 in
set_option maxHeartbeats 4000000 in
theorem FnTrmText_walk (ao : Option Addr) (la ca : Nat) (za : Nat → Int) (bo : Option Addr) (lb cb : Nat) (zb : Nat → Int) (w : World) (ha : Bin w ao la ca za) (hb : Bin w bo lb cb zb) (hTen : TenT w) (hErr : ErrG w) :
    Calls Tryd.prog 3 #[.slice ao la ca, .slice bo lb cb] w fun e w' => e = .returned (.bool true) ∧ Below w.heap.size w w' := by
  have hma : la ≤ 9223372036854775807 := by have := ha.1; have := ha.2.1; unfold maxLen at this; omega
  have hmb : lb ≤ 9223372036854775807 := by have := hb.1; have := hb.2.1; unfold maxLen at this; omega
  by_cases hbig : la ≤ 1048576 ∧ lb ≤ 1048576
  · obtain ⟨hba, hbb⟩ := hbig
    have HDA := hide (drawTrmText_any ao la ca za w ha)
    have HDB := hide (fun (W : World) (hW : Below w.heap.size w W) => drawTrmRead_any bo lb cb zb W (bin_below3 hb hW))
    have HTEN := hide (fun (W : World) (hW : Below w.heap.size w W) => hTen.below hW)
    have HERR := hide (fun (W : World) (hW : Below w.heap.size w W) => hErr.below hW)
    clear ha hb hTen hErr
    go_enter Tryd.func3, Tryd.ntmps3
    go_wp2_with fail
    refine (unhide HDA).mono ?_
    rintro e w1 ⟨v1, t, rfl, hO1, ht, hD1, hB1⟩
    obtain ⟨a1, c1, rfl, hc1, hm1, hr1⟩ := own_shape4 hO1
    obtain ⟨hF1, _⟩ := dc_fit hD1
    have htm : t.length ≤ maxLen := by unfold maxLen; omega
    have HX1 := hide (fun (W : World) (hW : Below w1.heap.size w1 W) => implTrmText_any a1 c1 t W hc1 hm1 (hr1.below hW) hF1 (unhide HTEN W (bstep hB1 hW)))
    have HX2 := hide (fun (W : World) (hW : Below w1.heap.size w1 W) => specTrmText_any a1 c1 t W htm (hr1.below hW) hF1)
    have HO1 := hide (fun (W : World) (hW : Below w1.heap.size w1 W) => TrmOk_any a1 c1 t W htm (hr1.below hW) hF1)
    have HO2 := hide (fun (W : World) (hW : Below w1.heap.size w1 W) => specTrmOk_any a1 c1 t W htm (hr1.below hW) hF1)
    have HRW := hide (fun (W : World) (hW : Below w1.heap.size w1 W) => hr1.below hW)
    clear HDA hO1 hD1 hr1 hF1
    go_wp2_with fail
    refine (unhide HDB w1 hB1).mono ?_
    rintro e w2 ⟨l, rfl, hl, hb2⟩
    have hB2 := bstep hB1 hb2
    clear HDB
    go_wp2_with fail
    refine (implTrmRead_any l w2 (by omega) (unhide HERR w2 hB2) (unhide HTEN w2 hB2)).mono ?_
    rintro e w3 ⟨v3, rfl, hO3, hb3⟩
    have h13 := bstep hb2 hb3
    have hB3 := bstep hB2 hb3
    go_wp2_with fail
    refine (specTrmRead_any l w3 (by omega)).mono ?_
    rintro e w4 ⟨v4, rfl, hO4, hb4⟩
    have h14 := bstep h13 hb4
    have hB4 := bstep hB3 hb4
    have hxl := rdX_len l
    have HX := hide (show ∀ y, rdX l = some y → trm y = true ∧ textT y = mkS l from fun y hy => ⟨(rdX_back hy).1, by rw [← (rdX_back hy).2]; exact (mkS_bl _).symm⟩)
    obtain ⟨x, hx⟩ : ∃ x, x = (rdX l).getD [] := ⟨_, rfl⟩
    obtain ⟨f, hf⟩ : ∃ f, f = (rdX l).isSome := ⟨_, rfl⟩
    have HXF := hide (show f = true → trm x = true ∧ textT x = mkS l from fun h => by
      rw [hf] at h
      cases hr : rdX l with
      | none => rw [hr] at h; cases h
      | some y => rw [hx, hr]; exact unhide HX y hr)
    have hxfit : Fit x := fun c hc => by
      have hx2 := hx
      cases hr : rdX l with
      | none => rw [hr] at hx2; rw [hx2] at hc; cases hc
      | some y =>
        rw [hr] at hx2
        have hx3 : x = y := hx2
        subst hx3
        have := (okC_parts (((trm_iff x).1 (unhide HX x hr).1).2.2.1 c hc)).2.2.2
        unfold maxLen; omega
    rw [← hx] at hO3 hO4 hxl
    rw [← hf]
    clear hx hf HX
    have hff : (f != f) = false := by simp
    have hxm : x.length ≤ maxLen := by unfold maxLen; omega
    obtain ⟨a3, c3, rfl, hc3, hm3, hr3⟩ := own_shape4 hO3
    obtain ⟨a4, c4, rfl, hc4, hm4, hr4⟩ := own_shape4 hO4
    have HR3 := hide (fun (W : World) (hW : Below w3.heap.size w3 W) => hr3.below hW)
    have HR4 := hide (fun (W : World) (hW : Below w4.heap.size w4 W) => hr4.below hW)
    clear hO3 hO4 hr3 hr4
    obtain ⟨A, hA⟩ : ∃ A, A = textT t := ⟨_, rfl⟩
    rw [← hA] at HX1 HX2
    have HA := hide hA
    have hAA := toList_same A
    clear hA
    go_wp2_with fail
    refine (unhide HX1 w4 h14).mono ?_
    rintro e w5 ⟨rfl, hb5⟩
    have h15 := bstep h14 hb5
    have hB5 := bstep hB4 hb5
    go_wp2_with fail
    refine (unhide HX2 w5 h15).mono ?_
    rintro e w6 ⟨rfl, hb6⟩
    have h16 := bstep h15 hb6
    have hB6 := bstep hB5 hb6
    have h46 := bstep hb5 hb6
    go_wp2_with fail
    refine (caTerm_any a3 a4 c3 c4 x x w6 hxm (unhide HR3 w6 (bstep hb4 h46)) (unhide HR4 w6 h46)).mono ?_
    rw [sameS_yes rfl]
    rintro e w7 ⟨rfl, hb7⟩
    have h17 := bstep h16 hb7
    have hB7 := bstep hB6 hb7
    have h47 := bstep h46 hb7
    obtain ⟨g, hg⟩ : ∃ g, g = trm t := ⟨_, rfl⟩
    have hgg : (g != g) = false := by simp
    rw [← hg] at HO1 HO2
    have HG := hide hg
    clear hg
    go_wp2_with fail
    refine (unhide HO1 w7 h17).mono ?_
    rintro e w8 ⟨rfl, hb8⟩
    have h18 := bstep h17 hb8
    have hB8 := bstep hB7 hb8
    have h48 := bstep h47 hb8
    go_wp2_with fail
    refine (unhide HO2 w8 h18).mono ?_
    rintro e w9 ⟨rfl, hb9⟩
    have h19 := bstep h18 hb9
    have hB9 := bstep hB8 hb9
    have h49 := bstep h48 hb9
    have hxF : Fit x := hxfit
    cases hfx : f with
    | false =>
      subst hfx
      have hW1 := h19
      have hWB := hB9
      cases hgt : g with
      | false =>
        have hA0 : A = ByteArray.empty := by rw [unhide HA]; exact textT_no (by rw [← unhide HG]; exact hgt)
        subst hA0
        subst hgt
        have he : (ByteArray.empty).toList.isEmpty = true := by rw [ByteArray.toList_eq]; rfl
        go_wp2_with fail
        refine (unhide HO2 w9 hW1).mono ?_
        rintro e w12 ⟨rfl, hb12⟩
        go_wp2_with fail
        refine (unhide HX1 w12 (bstep hW1 hb12)).mono ?_
        rintro e w13 ⟨rfl, hb13⟩
        go_wp2_with fail
        refine (caOk_any w13).mono ?_
        rintro e w14 ⟨rfl, hb14⟩
        go_wp2
        go_ret
        exact ⟨rfl, bstep (bstep (bstep hWB hb12) hb13) hb14⟩
      | true =>
        have hXX := rdX_text (t := t) (by rw [← unhide HG]; exact hgt)
        have hAl : (bl A).length ≤ 1000000000 := by rw [bl_size, unhide HA]; have := textT_most t; omega
        rw [← unhide HA] at hXX
        subst hgt
        have HXX := hide hXX
        clear hXX
        go_wp2_with fail
        refine (unhide HO2 w9 hW1).mono ?_
        rintro e w12 ⟨rfl, hb12⟩
        have h112 := bstep hW1 hb12
        have hB12 := bstep hWB hb12
        go_wp2_with fail
        refine (unhide HX1 w12 h112).mono ?_
        rintro e w13 ⟨rfl, hb13⟩
        have h113 := bstep h112 hb13
        have hB13 := bstep hB12 hb13
        have HRD := hide (implTrmRead_any (bl A) w13 hAl (unhide HERR w13 hB13) (unhide HTEN w13 hB13))
        rw [mkS_bl] at HRD
        go_wp2_with fail
        refine (unhide HRD).mono ?_
        rintro e w14 ⟨v14, rfl, hO14, hb14⟩
        rw [unhide HXX] at hO14 ⊢
        have hO14' : OwnC w14 w13.heap.size v14 t := hO14
        obtain ⟨a14, c14, rfl, hc14, hm14, hr14⟩ := own_shape4 hO14'
        have hB14 := bstep hB13 hb14
        have h114 := bstep h113 hb14
        have HCT := hide (caTerm_any a14 a1 c14 c1 t t w14 htm hr14 (unhide HRW w14 h114))
        rw [sameS_yes rfl] at HCT
        clear hO14 hO14' hr14
        go_wp2_with fail
        refine (unhide HCT).mono ?_
        rintro e w15 ⟨rfl, hb15⟩
        go_wp2
        go_ret
        exact ⟨rfl, bstep hB14 hb15⟩
    | true =>
      obtain ⟨hxt, hxs⟩ := unhide HXF hfx
      subst hfx
      have hss := toList_same (mkS l)
      have HOX := hide (TrmOk_any a3 c3 x w9 hxm (unhide HR3 w9 (bstep hb4 h49)) hxF)
      have HTX := hide (fun (W : World) (hW : Below w9.heap.size w9 W) => implTrmText_any a3 c3 x W hc3 hm3 (unhide HR3 W (bstep (bstep hb4 h49) hW)) hxF (unhide HTEN W (bstep hB9 hW)))
      rw [hxt] at HOX
      rw [hxs] at HTX
      clear hxs HXF
      go_wp2_with fail
      refine (unhide HOX).mono ?_
      rintro e w10 ⟨rfl, hb10⟩
      go_wp2_with fail
      refine (unhide HTX w10 hb10).mono ?_
      rintro e w11 ⟨rfl, hb11⟩
      have hW1 := bstep (bstep h19 hb10) hb11
      have hWB := bstep (bstep hB9 hb10) hb11
      cases hgt : g with
      | false =>
        have hA0 : A = ByteArray.empty := by rw [unhide HA]; exact textT_no (by rw [← unhide HG]; exact hgt)
        subst hA0
        subst hgt
        have he : (ByteArray.empty).toList.isEmpty = true := by rw [ByteArray.toList_eq]; rfl
        go_wp2_with fail
        refine (unhide HO2 w11 hW1).mono ?_
        rintro e w12 ⟨rfl, hb12⟩
        go_wp2_with fail
        refine (unhide HX1 w12 (bstep hW1 hb12)).mono ?_
        rintro e w13 ⟨rfl, hb13⟩
        go_wp2_with fail
        refine (caOk_any w13).mono ?_
        rintro e w14 ⟨rfl, hb14⟩
        go_wp2
        go_ret
        exact ⟨rfl, bstep (bstep (bstep hWB hb12) hb13) hb14⟩
      | true =>
        have hXX := rdX_text (t := t) (by rw [← unhide HG]; exact hgt)
        have hAl : (bl A).length ≤ 1000000000 := by rw [bl_size, unhide HA]; have := textT_most t; omega
        rw [← unhide HA] at hXX
        subst hgt
        have HXX := hide hXX
        clear hXX
        go_wp2_with fail
        refine (unhide HO2 w11 hW1).mono ?_
        rintro e w12 ⟨rfl, hb12⟩
        have h112 := bstep hW1 hb12
        have hB12 := bstep hWB hb12
        go_wp2_with fail
        refine (unhide HX1 w12 h112).mono ?_
        rintro e w13 ⟨rfl, hb13⟩
        have h113 := bstep h112 hb13
        have hB13 := bstep hB12 hb13
        have HRD := hide (implTrmRead_any (bl A) w13 hAl (unhide HERR w13 hB13) (unhide HTEN w13 hB13))
        rw [mkS_bl] at HRD
        go_wp2_with fail
        refine (unhide HRD).mono ?_
        rintro e w14 ⟨v14, rfl, hO14, hb14⟩
        rw [unhide HXX] at hO14 ⊢
        have hO14' : OwnC w14 w13.heap.size v14 t := hO14
        obtain ⟨a14, c14, rfl, hc14, hm14, hr14⟩ := own_shape4 hO14'
        have hB14 := bstep hB13 hb14
        have h114 := bstep h113 hb14
        have HCT := hide (caTerm_any a14 a1 c14 c1 t t w14 htm hr14 (unhide HRW w14 h114))
        rw [sameS_yes rfl] at HCT
        clear hO14 hO14' hr14
        go_wp2_with fail
        refine (unhide HCT).mono ?_
        rintro e w15 ⟨rfl, hb15⟩
        go_wp2
        go_ret
        exact ⟨rfl, bstep hB14 hb15⟩
  · go_enter Tryd.func3, Tryd.ntmps3
    by_cases hla : la ≤ 1048576
    · have hlb : ¬ lb ≤ 1048576 := fun h => hbig ⟨hla, h⟩
      go_wp2
      go_ret
      exact ⟨rfl, Below.refl _ _⟩
    · go_wp2
      go_ret
      exact ⟨rfl, Below.refl _ _⟩
end Go.Proofs.YtjjpmlcaapedhaaDoor
