/- The walk of FnTrmTextFree. -/
import Derived.Test.YtoanmnmodlocgaaDoorQRR7
import Derived.Test.YtoanmnmodlocgaaDoorQD6L1TX2
import Derived.Test.YtoanmnmodlocgaaDoorQTX8
namespace Go.Proofs.YtoanmnmodlocgaaDoor
open Go.RowKit
set_option linter.unusedVariables false
set_option linter.unusedSimpArgs false

theorem own_shape4 {w : World} {base : Nat} {v : Value} {t : List C} (h : OwnC w base v t) : ∃ ao cap, v = .slice ao t.length cap ∧ t.length ≤ cap ∧ cap ≤ maxLen ∧ Row w ao t := by
  obtain ⟨ao, cap, e, hR⟩ := h.shape
  refine ⟨ao, cap, e, ?_, ?_, hR⟩
  · rcases h.2 with ⟨e1, h2⟩ | ⟨g, cap', cur, e1, _, _, h3, h4, _⟩
    · omega
    · rw [e] at e1; cases e1; exact h3
  · rcases h.2 with ⟨e1, h2⟩ | ⟨g, cap', cur, e1, _, _, h3, h4, _⟩
    · rw [e] at e1; injection e1 with _ _ e3; unfold maxLen; omega
    · rw [e] at e1; cases e1; exact h4

def DrewOne (w : World) (e : Ending) (w' : World) : Prop := ∃ v t, e = .returned v ∧ OwnC w' w.heap.size v t ∧ t.length ≤ 41 ∧ (∀ c ∈ t, Dc c) ∧ Below w.heap.size w w'
set_option maxRecDepth 100000 in
set_option maxHeartbeats 1000000 in
theorem drawTrmText_any (ao : Option Addr) (len cap : Nat) (z : Nat → Int) (w : World) (h : Bin w ao len cap z) :
    Calls Tryd.prog 7 #[.slice ao len cap] w (DrewOne w) := by
  go_enter Tryd.func7, Tryd.ntmps7
  go_wp2_with fail
  refine (open_any ao len cap z _ h).mono ?_
  rintro e w1 ⟨rfl, hR1, hb1⟩
  have hl1 := hR1.lt
  go_wp2_with fail
  refine (termOr_any w.heap.size 0 6 _ (by omega) (by omega) (by omega) hR1).mono ?_
  rintro e w2 ⟨v2, t, p2, rfl, hO2, _, ht, hD, hR2, hp2, hG2⟩
  have hb2 : Below w.heap.size w w2 := hb1.grown hG2 (by omega) (fun k e => by cases e; exact Nat.le_refl _)
  have HF : Hid (DrewOne w (.returned v2) w2) := ⟨v2, t, rfl, OwnC.base hO2 hb1.size, ht, hD, hb2⟩
  clear hD hG2 hR1 h hb1 hO2 hR2 hb2
  go_wp2
  go_ret
  exact unhide HF

theorem ends_ari : ∀ (t u : List C) (m : Int), t.map ari = u.map ari → ends m t = ends m u
  | [], [], _, _ => rfl
  | [], _ :: _, _, h => by simp at h
  | _ :: _, [], _, h => by simp at h
  | c :: t, d :: u, m, h => by
      simp only [List.map_cons, List.cons.injEq] at h
      simp only [ends, h.1, ends_ari t u _ h.2]
theorem trm_set {t : List C} {k : Nat} (h : trm t = true) (hk : k < t.length) (h1 : t[k].k = 1) (h2 : t[k].n < 99999) : trm (t.set k ⟨t[k].k, t[k].n + 1, t[k].s⟩) = true ∧ t.set k ⟨t[k].k, t[k].n + 1, t[k].s⟩ ≠ t := by
  have hh := (trm_iff t).1 h
  have hok := hh.2.2.1 t[k] (List.getElem_mem hk)
  refine ⟨(trm_iff _).2 ⟨by rw [List.length_set]; exact hh.1, by rw [List.length_set]; exact hh.2.1, fun c hc => ?_, ?_⟩, fun e => ?_⟩
  · rcases List.mem_or_eq_of_mem_set hc with hc | rfl
    · exact hh.2.2.1 c hc
    · unfold okC at hok ⊢
      simp only [h1, if_true] at hok ⊢
      simp at hok ⊢
      exact ⟨⟨by omega, by omega⟩, hok.2⟩
  · rw [List.length_set, ← hh.2.2.2]
    refine ends_ari _ _ _ ?_
    rw [List.map_set]
    have : ari ⟨t[k].k, t[k].n + 1, t[k].s⟩ = ari t[k] := by unfold ari; simp only [h1]; rfl
    rw [this]
    refine List.ext_getElem (by simp) (fun i i1 i2 => ?_)
    rw [List.getElem_set]
    split
    · rename_i e; subst e; simp
    · rfl
  · have h3 : (t.set k ⟨t[k].k, t[k].n + 1, t[k].s⟩)[k]'(by rw [List.length_set]; exact hk) = t[k] := by simp only [e]
    rw [List.getElem_set_self] at h3
    have h4 := congrArg C.n h3
    simp at h4
    omega

/-- No space stands in a text. -/
theorem word_space {c : C} (h : okC c = true) : (32 : UInt8) ∉ bl (wordB c) := by
  intro hm
  have hd : ∀ n : Nat, n < 100000 → (32 : UInt8) ∉ Go.Lib.decDigits n := fun n hn hm => by
    have := digits_dig 4 n (by simpa using hn) 32 hm
    simp [dig] at this
  obtain ⟨h0, h1, h2, _⟩ := okC_parts h
  have hnum : (32 : UInt8) ∉ bl (numB c.n) := fun hm => by
    rw [bl_num] at hm
    by_cases hn : c.n < 0
    · rw [itoa_neg hn, List.mem_cons] at hm
      rcases hm with hm | hm
      · exact absurd hm (by decide)
      · exact hd _ (by omega) hm
    · rw [itoa_pos (by omega)] at hm
      exact hd _ (by omega) hm
  unfold wordB at hm
  split at hm
  · rw [bl_app, List.mem_append] at hm
    rcases hm with hm | hm
    · exact absurd hm (by decide)
    · exact hnum hm
  · split at hm
    · exact hnum hm
    · rename_i k1 k2
      have k3 : c.k = 3 := by omega
      unfold okC at h
      rw [if_neg k1, if_neg k2, if_pos k3] at h
      simp at h
      have hs := h.2
      unfold nameB at hs
      simp only [Bool.and_eq_true, decide_eq_true_eq] at hs
      have := letters_sml hs.2 32 hm
      simp [sml, small] at this
theorem join_space : ∀ (us : List ByteArray), (∀ u ∈ us, (32 : UInt8) ∉ bl u) → (32 : UInt8) ∉ bl (joinB us)
  | [], _ => by simp [joinB, bl]
  | [u], h => by simpa [joinB] using h u (by simp)
  | u :: v :: r, h => by
      simp only [joinB, bl_app, List.mem_append, not_or]
      exact ⟨⟨h u (by simp), by decide⟩, join_space (v :: r) (fun x hx => h x (by simp [List.mem_cons.1 hx]))⟩
theorem txt_space {t : List C} {u : ByteArray} (h : Txt wordB t u) : (∀ c ∈ t, okC c = true) → (32 : UInt8) ∉ bl u := by
  induction h with
  | leaf h0 => exact fun hok => word_space (hok _ (by simp))
  | @node c ks us hne hl hu hk ih =>
    intro hok
    simp only [bl_app, List.mem_append, not_or]
    refine ⟨⟨⟨word_space (hok c (by simp)), by decide⟩, join_space us (fun u hu' => ?_)⟩, by decide⟩
    obtain ⟨i, hi, rfl⟩ := List.mem_iff_getElem.1 hu'
    exact ih i (by omega) hi (fun x hx => hok x (List.mem_cons_of_mem _ (List.mem_flatten.2 ⟨_, List.getElem_mem (by omega), hx⟩)))
theorem rdX_space {l : List UInt8} (h : (32 : UInt8) ∈ l) : rdX l = none := by
  cases hr : rdX l with
  | none => rfl
  | some t =>
    obtain ⟨ht, he⟩ := rdX_back hr
    exact absurd (by rw [he]; exact h) (txt_space (textT_txt ht) ((trm_iff t).1 ht).2.2.1)
theorem textT_len {t : List C} (ht : trm t = true) : (textT t).size ≤ 440 := by
  have h := (trm_iff t).1 ht
  have := txt_size (textT_txt ht) h.2.2.1
  omega
theorem textT_no {t : List C} (ht : trm t = false) : textT t = ByteArray.empty := by unfold textT; rw [ht]; rfl

set_option maxRecDepth 100000 in
set_option maxHeartbeats 8000000 in
theorem FnTrmTextFree_walk (ao : Option Addr) (la ca : Nat) (zf : Nat → Int) (w : World) (ha : Bin w ao la ca zf) (hTen : TenT w) (hErr : ErrG w) :
    Calls Tryd.prog 4 #[.slice ao la ca] w fun e w' => e = .returned (.bool true) ∧ Below w.heap.size w w' := by
  have hma : la ≤ 9223372036854775807 := by have := ha.1; have := ha.2.1; unfold maxLen at this; omega
  obtain ⟨i0, hi, hz0, hz1, hz2⟩ := info_parts Tryd.infoCell
  by_cases hbig : la ≤ 1048576
  · have HDA := hide (drawTrmText_any ao la ca zf w ha)
    have HTEN := hide (fun (W : World) (hW : Below w.heap.size w W) => hTen.below hW)
    have HERR := hide (fun (W : World) (hW : Below w.heap.size w W) => hErr.below hW)
    clear ha hTen hErr
    go_enter Tryd.func4, Tryd.ntmps4
    go_wp2_with fail
    refine (unhide HDA).mono ?_
    rintro e w1 ⟨v1, t, rfl, hO1, ht, hD1, hB1⟩
    obtain ⟨a1, c1, rfl, hc1, hm1, hr1⟩ := own_shape4 hO1
    obtain ⟨hF1, _⟩ := dc_fit hD1
    have htm : t.length ≤ maxLen := by unfold maxLen; omega
    have HX1 := hide (implTrmText_any a1 c1 t w1 hc1 hm1 hr1 hF1 (unhide HTEN w1 hB1))
    have HX2 := hide (fun (W : World) (hW : Below w1.heap.size w1 W) => specTrmText_any a1 c1 t W htm (hr1.below hW) hF1)
    have HO1 := hide (fun (W : World) (hW : Below w1.heap.size w1 W) => specTrmOk_any a1 c1 t W htm (hr1.below hW) hF1)
    have HOW := hide (fun (W : World) (hW : Below w1.heap.size w1 W) => own_below hO1 hW)
    clear HDA hO1 hD1
    obtain ⟨A, hA⟩ : ∃ A, A = textT t := ⟨_, rfl⟩
    rw [← hA] at HX1 HX2
    have HA := hide hA
    clear hA
    go_wp2_with fail
    refine (unhide HX1).mono ?_
    rintro e w2 ⟨rfl, hb2⟩
    go_wp2_with fail
    refine (unhide HX2 w2 hb2).mono ?_
    rintro e w3 ⟨rfl, hb3⟩
    have h13 := bstep hb2 hb3
    have hB3 := bstep hB1 h13
    have H1 := hide (unhide HO1 w3 h13)
    clear HX1 HX2 HO1 hb2 hb3 hr1
    cases hok : trm t with
    | false =>
      rw [hok] at H1
      have hA0 : A = ByteArray.empty := by rw [unhide HA]; exact textT_no hok
      subst hA0
      have he : (ByteArray.empty).toList.isEmpty = true := by rw [ByteArray.toList_eq]; rfl
      go_wp2_with fail
      refine (unhide H1).mono ?_
      rintro e w4 ⟨rfl, hb4⟩
      go_wp2_with fail
      refine (caOk_any w4).mono ?_
      rintro e w5 ⟨rfl, hb5⟩
      go_wp2
      go_ret
      exact ⟨rfl, bstep (bstep hB3 hb4) hb5⟩
    | true =>
      rw [hok] at H1
      have hl40 := ((trm_iff t).1 hok).2.1
      have hAs : A.size ≤ 440 := by rw [unhide HA]; exact textT_len hok
      have HOK := hide hok
      clear hok
      go_wp2_with fail
      refine (unhide H1).mono ?_
      rintro e w4 ⟨rfl, hb4⟩
      have h14 := bstep h13 hb4
      have hB4 := bstep hB3 hb4
      clear H1 hb4 h13 hB3
      go_wp2
      go_loopw [5] (fun i wr => ∃ (k : Nat), k ≤ t.length ∧ i = .int .i64 k ∧ Below w1.heap.size w1 wr) (fun i _ => t.length - (intOf i).toNat)
      case atStart => exact ⟨0, Nat.zero_le _, rfl, h14⟩
      case round =>
        obtain ⟨k, hk, rfl, hB⟩ := hrel
        by_cases hlt : k < t.length
        · have hOr := unhide HOW wr hB
          obtain ⟨g, cp, hv, hgb, hgl, hcp⟩ := own_some hOr (by omega)
          injection hv with e1 _ e3
          subst e1
          subst e3
          obtain ⟨c0, n0, s0, _, _, _⟩ := own_place hOr hlt
          obtain ⟨c, hc⟩ : ∃ c, c = t[k] := ⟨_, rfl⟩
          rw [← hc] at c0 n0 s0
          by_cases hk1 : c.k = 1
          · have hk1b : (c.k == 1) = true := by simpa using hk1
            by_cases hn1 : c.n < 99999
            · obtain ⟨htx, hne⟩ := trm_set (unhide HOK) hlt (by rw [← hc]; exact hk1) (by rw [← hc]; exact hn1)
              have hfar : ((textT (t.set k ⟨t[k].k, t[k].n + 1, t[k].s⟩)).toList == A.toList) = false := by
                rw [ByteArray.toList_eq, ByteArray.toList_eq]
                simp only [beq_eq_false_iff_ne]
                exact fun e => hne (textT_inj htx (unhide HOK) (bl_inj (by rw [unhide HA] at e; exact e)))
              have hn0 : 0 ≤ c.n := by
                have := ((trm_iff t).1 (unhide HOK)).2.2.1 t[k] (List.getElem_mem hlt)
                rw [← hc] at this
                have := (okC1 hk1).1 this
                omega
              have hwr : IntKind.i64.wrap (c.n + 1) = c.n + 1 := by simp [IntKind.wrap, IntKind.bits, IntKind.signed]; omega
              have hA1 : At (wr.alloc (.cells #[] 34)) g 0 t := (owns_at hOr rfl).below (cell_below _ _)
              have HC := hide hc
              have HTX := hide htx
              have HFar := hide hfar
              clear htx hne hc hfar
              go_wp2_with (at_builtin; refine wpList_append_own _ rfl _ _ 23 rfl wr.heap.size 34 i0 _ 3 32 Tryd.underlying23 hi hz0 hz1 hz2 rfl (by decide) _ _ _ rfl (World.ownsRow_made wr #[] 0 (Nat.le_refl _) (by simp [maxLen]) rfl) ⟨g, 0, none⟩ t.length c1 (flat t) rfl (flat_length t) hA1.each (flat_one t) ?s3 ?s4 ?s5 ?_)
              case s4 => omega
              intro v5 w5 ho5 hG5 _
              have hO5 : OwnC w5 wr.heap.size v5 t := ho5
              have hb5 : Below wr.heap.size wr w5 := (cell_below wr (.cells #[] 34)).grown hG5 (by simp) (fun k e => by simp [Value.ownBlock] at e; omega)
              obtain ⟨g5, cp5, rfl, hgb5, hgl5, hcp5⟩ := own_some hO5 (by omega)
              obtain ⟨d0, d1, d2, f0, f1, f2⟩ := own_place hO5 hlt
              rw [← unhide HC] at d0 d1 d2
              have hst := (hO5.stored (k * 3 + 1) (.int .i64 (c.n + 1))).1
              have hX : OwnC (w5.setCell ⟨g5, k * 3 + 1, none⟩ (.int .i64 (c.n + 1))) wr.heap.size (.slice (some ⟨g5, 0, none⟩) t.length cp5) (t.set k ⟨t[k].k, t[k].n + 1, t[k].s⟩) := by
                unfold OwnC
                rw [List.length_set, ← flat_set_n t k hlt, ← unhide HC]
                exact hst
              have hbX : Below wr.heap.size wr (w5.setCell ⟨g5, k * 3 + 1, none⟩ (.int .i64 (c.n + 1))) := hb5.setCell (p := ⟨g5, k * 3 + 1, none⟩) hgb5 _
              obtain ⟨X, hXe⟩ : ∃ X, X = t.set k ⟨t[k].k, t[k].n + 1, t[k].s⟩ := ⟨_, rfl⟩
              have hXl : X.length = t.length := by rw [hXe, List.length_set]
              rw [← hXe] at hX
              have hfx := unhide HFar
              rw [← hXe] at hfx
              have hFX : Fit X := fun d hd => by
                have := (okC_parts (((trm_iff X).1 (by rw [hXe]; exact unhide HTX)).2.2.1 d hd)).2.2.2
                unfold maxLen; omega
              obtain ⟨ax, cx, hve, hcx, hmx, hrx⟩ := own_shape4 hX
              injection hve with e1 e2 e3
              subst e1
              subst e3; clear e2
              have hB6 := bstep hB hbX
              have HXT := hide (implTrmText_any _ _ X _ hcx hmx hrx hFX (unhide HTEN _ (bstep hB1 hB6)))
              rw [hXl] at HXT
              have HB6 := hide hB6
              clear hst hX hbX hrx hFX hXe hB6 ho5 hG5 hO5 hb5 hOr hA1
              go_wp2_with fail
              refine (unhide HXT).mono ?_
              rintro e w7 ⟨rfl, hb7⟩
              have HB7 := hide (bstep (unhide HB6) hb7)
              clear HXT hb7 HB6
              go_wp2
              go_roundw
              case rel => exact ⟨k + 1, by omega, by go_num, unhide HB7⟩
              case measure => simp [intOf]; omega
            · have hn1' : ¬ c.n < 99999 := hn1
              clear hOr hc
              go_wp2
              go_roundw
              case rel => exact ⟨k + 1, by omega, by go_num, hB⟩
              case measure => simp [intOf]; omega
          · have hk1b : (c.k == 1) = false := by simpa using hk1
            clear hOr hc
            go_wp2
            go_roundw
            case rel => exact ⟨k + 1, by omega, by go_num, hB⟩
            case measure => simp [intOf]; omega
        · have hcat : ¬ (A.size + 1 > 9223372036854775807) := by omega
          have hcat2 : ¬ (1 + A.size > 9223372036854775807) := by omega
          have hcat3 : ¬ (A.size + ({ data := #[32] } : ByteArray).size > 9223372036854775807) := by have : ({ data := #[32] } : ByteArray).size = 1 := rfl; omega
          have hcat4 : ¬ (({ data := #[32] } : ByteArray).size + A.size > 9223372036854775807) := by have : ({ data := #[32] } : ByteArray).size = 1 := rfl; omega
          have hBw := bstep hB1 hB
          have hr1 : rdX (bl A ++ [32]) = none := rdX_space (by simp)
          have hr2 : rdX ([32] ++ bl A) = none := rdX_space (by simp)
          have hal : (bl A).length ≤ 440 := by rw [bl_size]; exact hAs
          have HR1 := hide (implTrmRead_any (bl A ++ [32]) wr (by simp; omega) (unhide HERR wr hBw) (unhide HTEN wr hBw))
          have HR2 := hide (fun (W : World) (hW : Below w.heap.size w W) => implTrmRead_any ([32] ++ bl A) W (by simp; omega) (unhide HERR W hW) (unhide HTEN W hW))
          have e1 : mkS (bl A ++ [32]) = A ++ ({ data := #[32] } : ByteArray) := bl_inj (by rw [bl_mkS, bl_app]; rfl)
          have e2 : mkS ([32] ++ bl A) = ({ data := #[32] } : ByteArray) ++ A := bl_inj (by rw [bl_mkS, bl_app]; rfl)
          rw [e1] at HR1
          rw [e2] at HR2
          have HQ1 := hide hr1
          have HQ2 := hide hr2
          clear e1 e2 hr1 hr2 HOW HOK HA h14 HERR HTEN
          go_wp2_with fail
          refine (unhide HR1).mono ?_
          intro e w7 hro
          obtain ⟨v7, rfl, hO7, hb7⟩ := hro
          rw [unhide HQ1]
          have hB7 := bstep hBw hb7
          obtain ⟨a7, cp7, rfl, _⟩ := hO7.shape
          clear hO7 hb7 HR1 HQ1
          go_wp2_with fail
          refine (unhide HR2 w7 hB7).mono ?_
          intro e w8 hro
          obtain ⟨v8, rfl, hO8, hb8⟩ := hro
          rw [unhide HQ2]
          have hB8 := bstep hB7 hb8
          obtain ⟨a8, cp8, rfl, _⟩ := hO8.shape
          clear hO8 hb8 HR2 HQ2
          go_wp2
          go_ret
          exact ⟨rfl, hB8⟩
  · have hn : ¬ la ≤ 1048576 := hbig
    go_enter Tryd.func4, Tryd.ntmps4
    go_wp2
    go_ret
    exact ⟨rfl, Below.refl _ _⟩
end Go.Proofs.YtoanmnmodlocgaaDoor
