/- What is drawn: two lists of places (DrawTrmSame); the walk of FnTrmSame. -/
import Derived.Test.YtpfcjdabfmelaaaDoorQD6
import Derived.Test.YtpfcjdabfmelaaaDoorQW8W18
import Derived.Test.YtpfcjdabfmelaaaDoorQPlain2L1Plain4
import Derived.Test.YtpfcjdabfmelaaaDoorQRX1
import Derived.Test.YtpfcjdabfmelaaaDoorQTX2TX3TX8
import Derived.Test.YtpfcjdabfmelaaaDoorQYS1YX1W14YB5
import Derived.Test.YtpfcjdabfmelaaaDoorQZB1
namespace Go.Proofs.YtpfcjdabfmelaaaDoor
open Go.RowKit
set_option linter.unusedVariables false
set_option linter.unusedSimpArgs false

theorem own_shape3 {w : World} {base : Nat} {v : Value} {t : List C} (h : OwnC w base v t) : ∃ ao cap, v = .slice ao t.length cap ∧ t.length ≤ cap ∧ cap ≤ maxLen ∧ Row w ao t := by
  obtain ⟨ao, cap, e, hR⟩ := h.shape
  refine ⟨ao, cap, e, ?_, ?_, hR⟩
  · rcases h.2 with ⟨e1, h2⟩ | ⟨g, cap', cur, e1, _, _, h3, h4, _⟩
    · omega
    · rw [e] at e1; cases e1; exact h3
  · rcases h.2 with ⟨e1, h2⟩ | ⟨g, cap', cur, e1, _, _, h3, h4, _⟩
    · rw [e] at e1; injection e1 with _ _ e3; unfold maxLen; omega
    · rw [e] at e1; cases e1; exact h4

theorem OwnY.shape2 {w : World} {base : Nat} {v : Value} {z : List Int} (h : OwnY w base v z) : ∃ ao cap, v = .slice ao z.length cap ∧ z.length ≤ cap := by
  rcases h.2 with ⟨e, hn⟩ | ⟨g, cap, cur, e, hb, hg, hc, hm, _⟩
  · exact ⟨none, 0, by rw [e, hn], by omega⟩
  · exact ⟨_, cap, e, hc⟩

def DrewTwo (w : World) (e : Ending) (w' : World) : Prop := ∃ v v' t u, e = .returned (.tuple #[v, v']) ∧ OwnC w' w.heap.size v t ∧ OwnC w' w.heap.size v' u ∧ t.length ≤ 41 ∧ u.length ≤ 41 ∧ (∀ c ∈ t, Dc c) ∧ (∀ c ∈ u, Dc c) ∧ Below w.heap.size w w'

set_option maxRecDepth 100000 in
set_option maxHeartbeats 4000000 in
theorem drawTrmSame_any (ao : Option Addr) (len cap : Nat) (z : Nat → Int) (w : World) (h : Bin w ao len cap z) :
    Calls Tryd.prog 4 #[.slice ao len cap] w (DrewTwo w) := by
  obtain ⟨i0, hi, hz0, hz1, hz2⟩ := info_parts Tryd.infoCell
  go_enter Tryd.func4, Tryd.ntmps4
  go_wp2_with fail
  refine (open_any ao len cap z _ h).mono ?_
  rintro e w1 ⟨rfl, hR1, hb1⟩
  have hl1 := hR1.lt
  clear h
  go_wp2_with fail
  refine (termOr_any w.heap.size 0 9 _ (by omega) (by omega) (by omega) hR1).mono ?_
  rintro e w2 ⟨v2, t, p2, rfl, hO2, _, ht, hD, hR2, hp2, hG2⟩
  have hb2 : Below w.heap.size w w2 := hb1.grown hG2 (by omega) (fun k e => by cases e; exact Nat.le_refl _)
  have HD := hide hD
  clear hD hG2 hR1
  go_wp2_with fail
  refine (pick_any w.heap.size p2 2 _ (by omega) (by omega) (by omega) hR2).mono ?_
  rintro e w3 ⟨r, rfl, hr0, hr1, hR3, hG3⟩
  have hO3 : OwnC w3 w1.heap.size v2 t := own_apart hO2 hG3 (fun k e => .inl (by cases e; exact hl1))
  have hb3 : Below w.heap.size w w3 := hb2.grown hG3 hb2.size (fun k e => by cases e; exact Nat.le_refl _)
  clear hO2 hG3 hR2 hb2
  have hs1 := hb1.size
  clear hb1
  by_cases hr : r = 0
  · subst hr
    clear hr0 hr1 hR3
    have hO3' := hO3
    rcases hO3'.2 with ⟨e1, hn⟩ | ⟨g, cp, cur, e1, hb, hg, hc, hm, _⟩
    · subst e1
      have HO := hide hO3
      have HB := hide hb3
      clear hO3 hO3' hb3
      have ht0 : t = [] := List.length_eq_zero_iff.1 hn
      subst ht0
      have HN := hide (World.ownsRow_made w3 #[] 0 (Nat.le_refl _) (by simp [maxLen]) rfl (e := 38) (size := 3))
      clear hn
      go_wp2
      go_ret2
      refine ⟨_, _, [], [], rfl, OwnC.base (own_below (unhide HO) (cell_below _ _)) hs1, ?_, by simp, by simp, fun c hc => by simp at hc, fun c hc => by simp at hc, bstep (unhide HB) (cell_below _ _)⟩
      exact own_lo (unhide HN) (fun k e => by have := (unhide HB).size; have := ((unhide HN).lt k e).1; omega)
    · subst e1
      have hA1 : At (w3.alloc (.cells #[] 38)) g 0 t := (owns_at hO3 rfl).below (cell_below _ _)
      go_wp2_with (at_builtin; refine wpList_append_own _ rfl _ _ 23 rfl w3.heap.size 38 i0 _ 3 32 Tryd.underlying23 hi hz0 hz1 hz2 rfl (by decide) _ _ _ rfl (World.ownsRow_made w3 #[] 0 (Nat.le_refl _) (by simp [maxLen]) rfl) ⟨g, 0, none⟩ t.length cp (flat t) rfl (flat_length t) hA1.each (flat_one t) ?s3 ?s4 ?s5 ?_)
      case s3 => unfold maxLen; omega
      case s4 => omega
      case s5 => simp
      intro v4 w4 ho4 hG4 _
      have hO4 : OwnC w4 w3.heap.size v4 t := ho4
      have hb4 : Below w3.heap.size w3 w4 := (cell_below w3 (.cells #[] 38)).grown hG4 (by simp) (fun k e => by simp [Value.ownBlock] at e; omega)
      have FIN : Hid (DrewTwo w (.returned (.tuple #[.slice (some ⟨g, 0, none⟩) t.length cp, v4])) w4) := ⟨_, _, t, t, rfl, OwnC.base (own_below hO3 hb4) hs1, OwnC.base hO4 hb3.size, ht, ht, unhide HD, unhide HD, bstep hb3 hb4⟩
      clear ho4 hO4 hG4 hA1 hO3 hO3' hb3 hb4
      go_wp2
      go_ret2
      exact unhide FIN
  · have hr2 : r = 1 := by omega
    subst hr2
    clear hr hr0 hr1
    go_wp2_with fail
    refine (termOr_any w.heap.size (p2 + 1) 9 _ (by omega) (by omega) (by omega) hR3).mono ?_
    rintro e w4 ⟨v4, u, p4, rfl, hO4, _, hu, hDu, hR4, hp4, hG4⟩
    have hO5 : OwnC w4 w1.heap.size v2 t := own_apart hO3 hG4 (fun k e => .inl (by cases e; exact hl1))
    have hb4 : Below w.heap.size w w4 := hb3.grown hG4 hb3.size (fun k e => by cases e; exact Nat.le_refl _)
    have FIN : Hid (DrewTwo w (.returned (.tuple #[v2, v4])) w4) := ⟨_, _, t, u, rfl, OwnC.base hO5 hs1, OwnC.base hO4 hb3.size, ht, hu, unhide HD, hDu, hb4⟩
    clear hDu hG4 hO4 hO5 hb4 hb3 hO3 hR3 hR4
    go_wp2
    go_ret2
    exact unhide FIN

theorem sameS_comm (t u : List C) : sameS u t = sameS t u := by
  cases h : sameS t u with
  | true =>
    by_cases e : t = u
    · subst e; exact h
    · rw [sameS_no e] at h; cases h
  | false =>
    by_cases e : t = u
    · subst e; exact h
    · exact sameS_no (fun x => e x.symm)
theorem sameS_eq {t u : List C} (h : sameS t u = true) : t = u := by
  by_cases e : t = u
  · exact e
  · rw [sameS_no e] at h; cases h
theorem sameS_ne {t u : List C} (h : sameS t u = false) : t ≠ u := fun e => by
  rw [sameS_yes e] at h; cases h
theorem encT_inj {t u : List C} (ht : trm t = true) (hu : trm u = true) (h : encT t = encT u) : t = u := by
  have h1 := rdAll_encT ht
  rw [h, rdAll_encT hu] at h1
  injection h1 with h1
  exact h1.symm
theorem text_far {t u : List C} (ht : trm t = true) (hu : trm u = true) (h : t ≠ u) : ((textT t).toList == (textT u).toList) = false := by
  rw [ByteArray.toList_eq, ByteArray.toList_eq]
  simp only [beq_eq_false_iff_ne]
  exact fun e => h (textT_inj ht hu (bl_inj e))

set_option maxRecDepth 100000 in
set_option maxHeartbeats 8000000 in
theorem FnTrmSame_walk (ao : Option Addr) (la ca : Nat) (zf : Nat → Int) (w : World) (ha : Bin w ao la ca zf) (hTen : TenT w) :
    Calls Tryd.prog 3 #[.slice ao la ca] w fun e w' => e = .returned (.bool true) ∧ Below w.heap.size w w' := by
  have hma : la ≤ 9223372036854775807 := by have := ha.1; have := ha.2.1; unfold maxLen at this; omega
  by_cases hbig : la ≤ 1048576
  · have HDA := hide (drawTrmSame_any ao la ca zf w ha)
    have HTEN := hide (fun (W : World) (hW : Below w.heap.size w W) => hTen.below hW)
    clear ha hTen
    go_enter Tryd.func3, Tryd.ntmps3
    go_wp2_with fail
    refine (unhide HDA).mono ?_
    rintro e w1 ⟨v1, v2, t, u, rfl, hO1, hO2, ht, hu, hD1, hD2, hB1⟩
    obtain ⟨a1, c1, rfl, hc1, hm1, hr1⟩ := own_shape3 hO1
    obtain ⟨a2, c2, rfl, hc2, hm2, hr2⟩ := own_shape3 hO2
    obtain ⟨hF1, _⟩ := dc_fit hD1
    obtain ⟨hF2, _⟩ := dc_fit hD2
    have htm : t.length ≤ maxLen := by unfold maxLen; omega
    have hum : u.length ≤ maxLen := by unfold maxLen; omega
    have HS1 := hide (fun (W : World) (hW : Below w1.heap.size w1 W) => TrmSame_any a1 a2 c1 c2 t u W htm (hr1.below hW) (hr2.below hW))
    have HS2 := hide (fun (W : World) (hW : Below w1.heap.size w1 W) => TrmSame_any a2 a1 c2 c1 u t W hum (hr2.below hW) (hr1.below hW))
    have HS3 := hide (fun (W : World) (hW : Below w1.heap.size w1 W) => TrmSame_any a1 a1 c1 c1 t t W htm (hr1.below hW) (hr1.below hW))
    have HP := hide (fun (W : World) (hW : Below w1.heap.size w1 W) => specTrmSame_any a1 a2 c1 c2 t u W htm (hr1.below hW) (hr2.below hW))
    have HC := hide (fun (W : World) (hW : Below w1.heap.size w1 W) => caTerm_any a1 a2 c1 c2 t u W htm (hr1.below hW) (hr2.below hW))
    have HO1 := hide (fun (W : World) (hW : Below w1.heap.size w1 W) => specTrmOk_any a1 c1 t W htm (hr1.below hW) hF1)
    have HO2 := hide (fun (W : World) (hW : Below w1.heap.size w1 W) => specTrmOk_any a2 c2 u W hum (hr2.below hW) hF2)
    have HX1 := hide (fun (W : World) (hW : Below w1.heap.size w1 W) => implTrmText_any a1 c1 t W hc1 hm1 (hr1.below hW) hF1 (unhide HTEN W (bstep hB1 hW)))
    have HX2 := hide (fun (W : World) (hW : Below w1.heap.size w1 W) => implTrmText_any a2 c2 u W hc2 hm2 (hr2.below hW) hF2 (unhide HTEN W (bstep hB1 hW)))
    have HY1 := hide (fun (W : World) (hW : Below w1.heap.size w1 W) => implTrmBytes_any a1 c1 t W htm (hr1.below hW) hF1)
    have HY2 := hide (fun (W : World) (hW : Below w1.heap.size w1 W) => implTrmBytes_any a2 c2 u W hum (hr2.below hW) hF2)
    simp only [sameS_comm t u, sameS_yes rfl] at HS2 HS3
    obtain ⟨b, hb⟩ : ∃ b, b = sameS t u := ⟨_, rfl⟩
    rw [← hb] at HS1 HS2 HP HC
    have HBT := hide hb
    clear hb hO1 hO2 hr1 hr2 hF1 hF2 hD1 hD2 HDA HTEN
    have hbb : (b != b) = false := by cases b <;> rfl
    go_wp2_with fail
    refine (unhide HS1 w1 (Below.refl _ _)).mono ?_
    rintro e w2 ⟨rfl, hb2⟩
    have h12 := hb2
    go_wp2_with fail
    refine (unhide HP w2 h12).mono ?_
    rintro e w3 ⟨rfl, hb3⟩
    have h13 := bstep h12 hb3
    go_wp2_with fail
    refine (unhide HC w3 h13).mono ?_
    rintro e w4 ⟨rfl, hb4⟩
    have h14 := bstep h13 hb4
    go_wp2_with fail
    refine (unhide HS2 w4 h14).mono ?_
    rintro e w5 ⟨rfl, hb5⟩
    have h15 := bstep h14 hb5
    go_wp2_with fail
    refine (unhide HS3 w5 h15).mono ?_
    rintro e w6 ⟨rfl, hb6⟩
    have h16 := bstep h15 hb6
    have hB6 := bstep hB1 h16
    have H1 := hide (unhide HO1 w6 h16)
    clear hb2 hb3 hb4 hb5 hb6 h12 h13 h14 h15 HS1 HS2 HS3 HP HC HO1
    cases hok1 : trm t with
    | false =>
      rw [hok1] at H1
      go_wp2_with fail
      refine (unhide H1).mono ?_
      rintro e w7 ⟨rfl, hb7⟩
      go_wp2_with fail
      refine (caOk_any w7).mono ?_
      rintro e w8 ⟨rfl, hb8⟩
      go_wp2
      go_ret
      exact ⟨rfl, bstep (bstep hB6 hb7) hb8⟩
    | true =>
      rw [hok1] at H1
      go_wp2_with fail
      refine (unhide H1).mono ?_
      rintro e w7 ⟨rfl, hb7⟩
      have h17 := bstep h16 hb7
      have hB7 := bstep hB6 hb7
      have H2 := hide (unhide HO2 w7 h17)
      clear H1 HO2 hb7 h16 hB6
      cases hok2 : trm u with
      | false =>
        rw [hok2] at H2
        go_wp2_with fail
        refine (unhide H2).mono ?_
        rintro e w8 ⟨rfl, hb8⟩
        go_wp2_with fail
        refine (caOk_any w8).mono ?_
        rintro e w9 ⟨rfl, hb9⟩
        go_wp2
        go_ret
        exact ⟨rfl, bstep (bstep hB7 hb8) hb9⟩
      | true =>
        rw [hok2] at H2
        go_wp2_with fail
        refine (unhide H2).mono ?_
        rintro e w8 ⟨rfl, hb8⟩
        have h18 := bstep h17 hb8
        have hB8 := bstep hB7 hb8
        clear H2 hb8 h17 hB7
        have hlt : (encT t).length ≤ maxLen := Nat.le_trans (encT_length t) (by unfold maxLen; omega)
        have hby : decide (encT t = encT u) = b := by
          cases hb : b with
          | true => rw [unhide HBT] at hb; rw [sameS_eq hb]; simp
          | false => rw [unhide HBT] at hb; exact decide_eq_false (fun e => sameS_ne hb (encT_inj hok1 hok2 e))
        have htx : ((textT t).toList == (textT u).toList) = b := by
          cases hb : b with
          | true => rw [unhide HBT] at hb; rw [sameS_eq hb]; simp
          | false => rw [unhide HBT] at hb; exact text_far hok1 hok2 (sameS_ne hb)
        have HX3 := hide (unhide HX1 w8 h18)
        generalize textT t = A at HX3 htx
        generalize hA2 : textT u = A2 at htx
        generalize hE1 : encT t = E1 at hby hlt
        generalize hE2 : encT u = E2 at hby
        have hbe : (b == b) = true := by cases b <;> rfl
        have HA2 := hide hA2
        have HE1 := hide hE1
        have HE2 := hide hE2
        have HBY := hide hby
        clear hA2 hE1 hE2 hby HX1 hok1 hok2
        go_wp2_with fail
        refine (unhide HX3).mono ?_
        rintro e w9 ⟨rfl, hb9⟩
        have h19 := bstep h18 hb9
        have hB9 := bstep hB8 hb9
        have HX4 := hide (unhide HX2 w9 h19)
        rw [unhide HA2] at HX4
        clear HX2 HX3 hb9
        go_wp2_with fail
        refine (unhide HX4).mono ?_
        rintro e w10 ⟨rfl, hb10⟩
        have h110 := bstep h19 hb10
        have hB10 := bstep hB9 hb10
        clear HX4 hb10
        go_wp2_with fail
        refine (unhide HY1 w10 h110).mono ?_
        rintro e w11 ⟨v3, rfl, hO3, hb11⟩
        have h111 := bstep h110 hb11
        have hB11 := bstep hB10 hb11
        rw [unhide HE1] at hO3
        obtain ⟨a3, c3, rfl, _⟩ := hO3.shape2
        have hr3 := hO3.row
        clear hO3 hb11
        go_wp2_with fail
        refine (unhide HY2 w11 h111).mono ?_
        rintro e w12 ⟨v4, rfl, hO4, hb12⟩
        have hB12 := bstep hB11 hb12
        rw [unhide HE2] at hO4
        obtain ⟨a4, c4, rfl, _⟩ := hO4.shape2
        have hr4 := hO4.row
        have HCB := hide (caBytes_any a3 a4 c3 c4 E1 E2 w12 hlt (hr3.below hb12) hr4)
        rw [unhide HBY] at HCB
        clear hO4 hb12 hr3 hr4
        go_wp2_with fail
        refine (unhide HCB).mono ?_
        rintro e w13 ⟨rfl, hb13⟩
        go_wp2
        go_ret
        exact ⟨rfl, bstep hB12 hb13⟩
  · have hn : ¬ la ≤ 1048576 := hbig
    go_enter Tryd.func3, Tryd.ntmps3
    go_wp2
    go_ret
    exact ⟨rfl, Below.refl _ _⟩
end Go.Proofs.YtpfcjdabfmelaaaDoor
