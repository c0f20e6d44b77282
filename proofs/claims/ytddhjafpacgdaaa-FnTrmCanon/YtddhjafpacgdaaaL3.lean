/- The walk of the law FnTrmRenamed. -/
import Derived.Test.YtddhjafpacgdaaaL1
import Derived.Test.YtddhjafpacgdaaaD7
import Derived.Test.YtddhjafpacgdaaaW16
import Derived.Test.YtddhjafpacgdaaaW18
import Derived.Test.YtddhjafpacgdaaaPlain3
namespace Go.Proofs.Ytddhjafpacgdaaa
open Go.RowKit
set_option linter.unusedVariables false
set_option linter.unusedSimpArgs false

theorem renC_even {c : C} (h1 : c.k = 1) (h2 : c.n < 99999) (h3 : c.n % 2 = 0) : renC c = ⟨c.k, c.n + 1, c.s⟩ := by simp [renC, sw, h1, h2, h3]
theorem renC_odd {c : C} (h1 : c.k = 1) (h2 : c.n < 99999) (h3 : c.n % 2 ≠ 0) : renC c = ⟨c.k, c.n - 1, c.s⟩ := by simp [renC, sw, h1, h2, h3]

/-- What a write of one number leaves of places that are being turned. -/
theorem mix_store {w : World} {base g cp k : Nat} {t : List C} {x : Int} (hk : k < t.length) (hO : w.ownsRow base 36 3 (.slice (some ⟨g, 0, none⟩) t.length cp) t.length (flat (mix t k))) (hx : renC t[k] = ⟨t[k].k, x, t[k].s⟩) :
    (w.setCell ⟨g, k * 3 + 1, none⟩ (.int .i64 x)).ownsRow base 36 3 (.slice (some ⟨g, 0, none⟩) t.length cp) t.length (flat (mix t (k + 1))) := by
  have h := (hO.stored (k * 3 + 1) (.int .i64 x)).1
  rw [flat_set_n (mix t k) k (by rw [mix_length]; exact hk), mix_get hk, ← hx, mix_set hk] at h
  exact h

theorem mix_place {w : World} {base g cp k : Nat} {t : List C} (hk : k < t.length) (hO : w.ownsRow base 36 3 (.slice (some ⟨g, 0, none⟩) t.length cp) t.length (flat (mix t k))) :
    w.cell? ⟨g, k * 3, none⟩ = some (.int .i64 t[k].k) ∧ w.cell? ⟨g, k * 3 + 1, none⟩ = some (.int .i64 t[k].n) ∧ w.cell? ⟨g, k * 3 + 2, none⟩ = some (.string t[k].s) ∧ w.frozen? ⟨g, k * 3 + 1, none⟩ = false := by
  have hO' : OwnC w base (.slice (some ⟨g, 0, none⟩) (mix t k).length cp) (mix t k) := by unfold OwnC; rw [mix_length]; exact hO
  have h := own_place hO' (k := k) (by rw [mix_length]; exact hk)
  rw [mix_get hk] at h
  exact ⟨h.1, h.2.1, h.2.2.1, h.2.2.2.2.1⟩

theorem ok_var {t : List C} (h : trm t = true) {c : C} (hc : c ∈ t) (h1 : c.k = 1) : 0 ≤ c.n ∧ c.n ≤ 99999 := by
  have := (okC1 h1).1 (((trm_iff t).1 h).2.2.1 c hc)
  exact ⟨this.1, this.2.1⟩

theorem wf_ren {t : List C} (h : ∀ c ∈ t, c.k = 1 → c.n < 99999) (hD : ∀ c ∈ t, Dc c) : WfC (t.map renC) := by
  intro d hd
  obtain ⟨c, hc, rfl⟩ := List.mem_map.1 hd
  obtain ⟨h1, h2, h3, h4, _⟩ := hD c hc
  unfold renC sw
  split
  · split
    · refine ⟨show (Lit.int .i64 c.k).wf = true from WalkArith.wf_i64 (by omega), ?_⟩
      show (Lit.int .i64 (if c.n % 2 = 0 then c.n + 1 else c.n - 1)).wf = true
      split
      · exact WalkArith.wf_i64 (by omega)
      · exact WalkArith.wf_i64 (by omega)
    · exact ⟨WalkArith.wf_i64 (by omega), WalkArith.wf_i64 (by omega)⟩
  · exact ⟨WalkArith.wf_i64 (by omega), WalkArith.wf_i64 (by omega)⟩

set_option maxRecDepth 100000 in
set_option maxHeartbeats 4000000 in
theorem FnTrmRenamed_walk (ao : Option Addr) (len cap : Nat) (zz : Nat → Int) (w : World) (h : Bin w ao len cap zz) :
    Calls Try.prog 11 #[.slice ao len cap] w fun e w' => e = .returned (.bool true) ∧ Below w.heap.size w w' := by
  have hmx : len ≤ 9223372036854775807 := by have := h.1; have := h.2.1; unfold maxLen at this; omega
  obtain ⟨i0, hi, hz0, hz1, hz2⟩ := info_parts Try.infoCell
  by_cases hbig : len ≤ 1048576
  · go_enter Try.func11, Try.ntmps11
    go_wp2_with fail
    refine (drawTrmShift_any ao len cap zz _ h).mono ?_
    rintro e w1 ⟨v, t, n, rfl, hO1, ht41, hDc, hwn, hb1⟩
    obtain ⟨hFit, hWf⟩ := dc_fit hDc
    have HF := hide hFit
    have HW := hide hWf
    have HDC := hide hDc
    clear hDc hFit hWf
    obtain ⟨a1, c1, rfl, hR1⟩ := hO1.shape
    have hml : t.length ≤ maxLen := by unfold maxLen; omega
    have hlen : t.length ≤ 1048576 := by omega
    go_wp2_with fail
    refine (specTrmOk_any a1 c1 t _ hml hR1 (unhide HF)).mono ?_
    rintro e w2 ⟨rfl, hb2⟩
    have hB2 := bstep hb1 hb2
    have hO2 := OwnC.below hO1 hb2
    cases hok : trm t with
    | false =>
      have HN := hide hok
      go_wp2_with fail
      refine (TrmShift_no a1 c1 t n _ hml hO2.row (unhide HF) (unhide HN)).mono ?_
      rintro e w3 ⟨rfl, hb3⟩
      go_wp2_with fail
      refine (caOk_any _).mono ?_
      rintro e w4 ⟨rfl, hb4⟩
      go_wp2
      go_ret
      exact ⟨rfl, bstep (bstep hB2 hb3) hb4⟩
    | true =>
      have hl := trm_len hok
      have HOK := hide hok
      obtain ⟨g0, c0, hv0, hgb0, hgl0, hcp0⟩ := own_some hO2 hl.1
      simp only [Value.slice.injEq] at hv0
      obtain ⟨rfl, _, rfl⟩ := hv0
      have hA1 : At (w2.alloc (.cells #[] 36)) g0 0 t := (owns_at hO2 rfl).below (cell_below _ _)
      have HA1 := hide hA1.each
      clear hA1
      go_wp2_with (at_builtin; refine wpList_append_own _ rfl (.tmp 28) (.tmp 29) 23 rfl w2.heap.size 36 i0 _ 3 32 Try.underlying23 hi hz0 hz1 hz2 rfl (by decide) _ _ _ rfl (World.ownsRow_made w2 #[] 0 (Nat.le_refl _) (by simp [maxLen]) rfl) ⟨g0, 0, none⟩ t.length c1 (flat t) rfl (flat_length t) (unhide HA1) (flat_one t) ?s3 ?s4 ?s5 ?_)
      case s3 => unfold maxLen; omega
      case s4 => omega
      case s5 => simp
      intro v3 w3 ho3 hG3 _
      have hO3 : OwnC w3 w2.heap.size v3 t := ho3
      have hb3 : Below w2.heap.size w2 w3 := (cell_below w2 (.cells #[] 36)).grown hG3 (by simp) (fun k e => by simp [Value.ownBlock] at e; omega)
      clear ho3 hG3 HA1
      obtain ⟨g, cp, rfl, hgb, hgl, hcp⟩ := own_some hO3 hl.1
      go_wp2
      go_loopw [6] (fun i wr => ∃ k : Nat, k ≤ t.length ∧ i = .int .i64 k ∧ wr.ownsRow w2.heap.size 36 3 (.slice (some ⟨g, 0, none⟩) t.length cp) t.length (flat (mix t k)) ∧ Below w2.heap.size w2 wr) (fun i _ => t.length - (intOf i).toNat)
      case atStart => exact ⟨0, Nat.zero_le _, rfl, by rw [mix_zero]; exact hO3, hb3⟩
      case round =>
        obtain ⟨k, hk, rfl, hown, hB⟩ := hrel
        by_cases hlt : k < t.length
        · obtain ⟨d0, d1, d2, f1⟩ := mix_place hlt hown
          have HMS := hide (fun x hx => mix_store (x := x) hlt hown hx)
          have HME := hide (fun hc => (show wr.ownsRow w2.heap.size 36 3 (.slice (some ⟨g, 0, none⟩) t.length cp) t.length (flat (mix t (k + 1))) by rw [mix_same hlt hc]; exact hown))
          have HV := hide (fun h1 => ok_var (unhide HOK) (List.getElem_mem hlt) h1)
          have HRE := hide (@renC_even t[k])
          have HRO := hide (@renC_odd t[k])
          have HID := hide (@renC_id t[k])
          clear hown
          obtain ⟨c, hc⟩ : ∃ c, c = t[k] := ⟨_, rfl⟩
          rw [← hc] at d0 d1 d2 HMS HME HV HRE HRO HID
          clear hc
          by_cases hk1 : c.k = 1
          · have hb : (c.k == 1) = true := by simpa using hk1
            have hvn := unhide HV hk1
            have HK := hide hk1
            clear hk1
            by_cases hnv : c.n < 99999
            · by_cases hpar : c.n % 2 = 0
              · have hpb : (c.n % 2 == 0) = true := by simpa using hpar
                have hst := hide (unhide HMS _ (unhide HRE (unhide HK) hnv hpar))
                clear hpar
                go_wp2
                go_roundw
                case rel => exact ⟨k + 1, by omega, by go_num, unhide hst, hB.setCell (p := ⟨g, _, none⟩) hgb _⟩
                case measure => simp [intOf]; omega
              · have hpb : (c.n % 2 == 0) = false := by simpa using hpar
                have hst := hide (unhide HMS _ (unhide HRO (unhide HK) hnv hpar))
                clear hpar
                go_wp2
                go_roundw
                case rel => exact ⟨k + 1, by omega, by go_num, unhide hst, hB.setCell (p := ⟨g, _, none⟩) hgb _⟩
                case measure => simp [intOf]; omega
            · have hst := hide (unhide HME (unhide HID (fun hh => hnv hh.2)))
              go_wp2
              go_roundw
              case rel => exact ⟨k + 1, by omega, by go_num, unhide hst, hB⟩
              case measure => simp [intOf]; omega
          · have hb : (c.k == 1) = false := by simpa using hk1
            have hst := hide (unhide HME (unhide HID (fun hh => hk1 hh.1)))
            clear hk1
            go_wp2
            go_roundw
            case rel => exact ⟨k + 1, by omega, by go_num, unhide hst, hB⟩
            case measure => simp [intOf]; omega
        · have hkl : k = t.length := by omega
          rw [hkl, mix_all] at hown
          have hBw := bstep hB2 hB
          have hT := OwnC.below hO2 hB
          clear hkl
          go_wp2_with fail
          refine (TrmFree_any (some ⟨g0, 0, none⟩) c1 t _ hlen hT.row (unhide HW)).mono ?_
          rintro e w4 ⟨v4, rfl, hO4, hb4⟩
          have hB4 := bstep hBw hb4
          have hX4 := own_below hown hb4
          have hT4 := OwnC.below hT hb4
          obtain ⟨z, hz⟩ : ∃ z, z = freeOf t := ⟨_, rfl⟩
          have hzl : z.length ≤ t.length := by rw [hz]; exact freeOf_len t
          rw [← hz] at hO4
          have HZ := hide hz
          clear hz
          obtain ⟨a4, c4, rfl, hR4⟩ := hO4.shape
          have HWX : Hid ((∀ c ∈ t, c.k = 1 → c.n < 99999) → WfC (t.map renC)) := fun hh => wf_ren hh (unhide HDC)
          rcases hR4 with hz0 | ⟨b4, o4, rfl, hF⟩
          · subst hz0
            go_wp2
            refine wp_loop_rounds 1 ?_
            rw [rounds_succ]
            have hno : ∀ c ∈ t, c.k = 1 → c.n < 99999 := fun c hc h1 => by
              have := (mem_freeOf t c.n).2 ⟨c, hc, h1, rfl⟩
              rw [← unhide HZ] at this
              exact absurd this List.not_mem_nil
            have hwx := unhide HWX hno
            have HCX := hide (show canonOf (t.map renC) = canonOf t by rw [map_renC hno]; exact canonOf_ren sw_inj t)
            have HFX := hide (show (freeOf (t.map renC)).length = ([] : List Int).length by rw [map_renC hno, freeOf_ren sw_inj, List.length_map, ← unhide HZ])
            clear hno
            have hX5 : OwnC w4 w2.heap.size (.slice (some ⟨g, 0, none⟩) (t.map renC).length cp) (t.map renC) := by unfold OwnC; rw [List.length_map]; exact hX4
            have hcon1 := TrmCanon_any (some ⟨g, 0, none⟩) cp (t.map renC) w4 (by rw [List.length_map]; exact hlen) hX5.row hwx
            rw [List.length_map, unhide HCX] at hcon1
            have HC1 := hide hcon1
            clear hcon1
            go_wp2_with fail
            refine (unhide HC1).mono ?_
            rintro e w6 ⟨v6, rfl, hO6, hb6⟩
            have hB6 := bstep hB4 hb6
            have hT6 := OwnC.below hT4 hb6
            have hX6 := OwnC.below hX5 hb6
            obtain ⟨a6, c6, hv6, _⟩ := hO6.shape
            rw [canonOf_length] at hv6
            subst hv6
            go_wp2_with fail
            refine (TrmCanon_any (some ⟨g0, 0, none⟩) c1 t _ hlen hT6.row (unhide HW)).mono ?_
            rintro e w7 ⟨v7, rfl, hO7, hb7⟩
            have hB7 := bstep hB6 hb7
            have hX7 := OwnC.below hX6 hb7
            have hO67 := OwnC.below hO6 hb7
            obtain ⟨a7, c7, hv7, _⟩ := hO7.shape
            rw [canonOf_length] at hv7
            subst hv7
            have hcon2 := caTerm_any a6 a7 c6 c7 (canonOf t) (canonOf t) w7 (by rw [canonOf_length]; exact hml) hO67.row hO7.row
            rw [sameS_yes rfl, canonOf_length] at hcon2
            have HC2 := hide hcon2
            clear hcon2
            go_wp2_with fail
            refine (unhide HC2).mono ?_
            rintro e w8 ⟨rfl, hb8⟩
            have hB8 := bstep hB7 hb8
            have hX8 := OwnC.below hX7 hb8
            have hcon3 := TrmFree_any (some ⟨g, 0, none⟩) cp (t.map renC) w8 (by rw [List.length_map]; exact hlen) hX8.row hwx
            rw [List.length_map] at hcon3
            have HC3 := hide hcon3
            clear hcon3
            go_wp2_with fail
            refine (unhide HC3).mono ?_
            rintro e w9 ⟨v9, rfl, hO9, hb9⟩
            have hB9 := bstep hB8 hb9
            obtain ⟨a9, c9, hv9, _⟩ := hO9.shape
            rw [unhide HFX] at hv9
            subst hv9
            go_wp2
            go_ret
            exact ⟨ret_bool (by simp), hB9⟩
          · go_wp2
            go_loopw [8] (fun i wr2 => ∃ m : Nat, m ≤ z.length ∧ i = .int .i64 m ∧ (99999 : Int) ∉ z.take m ∧ Below w4.heap.size w4 wr2) (fun i _ => z.length - (intOf i).toNat)
            case atStart => exact ⟨0, Nat.zero_le _, rfl, by simp, Below.refl _ _⟩
            case round =>
              obtain ⟨m, hm, rfl, hnm, hB5⟩ := hrel
              have HNM := hide hnm
              clear hnm
              by_cases hmz : m < z.length
              · have e0 := (hF.below hB5) m hmz
                obtain ⟨q, hq⟩ : ∃ q, q = z[m] := ⟨_, rfl⟩
                rw [← hq] at e0
                have HQ := hide hq
                clear hq
                by_cases hqq : q = 99999
                · have hqb : (q == 99999) = true := by simpa using hqq
                  clear hqq
                  go_wp2_with fail
                  refine (caOk_any _).mono ?_
                  rintro e w5 ⟨rfl, hb5⟩
                  go_wp2
                  go_ret
                  exact ⟨rfl, bstep (bstep hB4 hB5) hb5⟩
                · have hqb : (q == 99999) = false := by simpa using hqq
                  have HQN := hide hqq
                  clear hqq
                  go_wp2
                  go_roundw
                  case rel =>
                    refine ⟨m + 1, by omega, by go_num, ?_, hB5⟩
                    rw [List.take_succ_eq_append_getElem hmz, List.mem_append]
                    rintro (hh | hh)
                    · exact unhide HNM hh
                    · simp at hh
                      exact unhide HQN (by rw [unhide HQ]; exact hh.symm)
                  case measure => simp [intOf]; omega
              · have hno : ∀ c ∈ t, c.k = 1 → c.n < 99999 := fun c hc h1 => by
                  have hv := ok_var (unhide HOK) hc h1
                  have hmem := (mem_freeOf t c.n).2 ⟨c, hc, h1, rfl⟩
                  rw [← unhide HZ] at hmem
                  have hn9 := unhide HNM
                  rw [List.take_of_length_le (by omega)] at hn9
                  by_cases e : c.n = 99999
                  · rw [e] at hmem; exact absurd hmem hn9
                  · omega
                have hwx := unhide HWX hno
                have HCX := hide (show canonOf (t.map renC) = canonOf t by rw [map_renC hno]; exact canonOf_ren sw_inj t)
                have HFX := hide (show (freeOf (t.map renC)).length = z.length by rw [map_renC hno, freeOf_ren sw_inj, List.length_map, ← unhide HZ])
                clear hno
                have hX5 : OwnC wr w2.heap.size (.slice (some ⟨g, 0, none⟩) (t.map renC).length cp) (t.map renC) := by unfold OwnC; rw [List.length_map]; exact own_below hX4 hB5
                have hcon1 := TrmCanon_any (some ⟨g, 0, none⟩) cp (t.map renC) wr (by rw [List.length_map]; exact hlen) hX5.row hwx
                rw [List.length_map, unhide HCX] at hcon1
                have HC1 := hide hcon1
                clear hcon1
                go_wp2_with fail
                refine (unhide HC1).mono ?_
                rintro e w6 ⟨v6, rfl, hO6, hb6⟩
                have hB6 := bstep (bstep hB4 hB5) hb6
                have hT6 := OwnC.below (OwnC.below hT4 hB5) hb6
                have hX6 := OwnC.below hX5 hb6
                obtain ⟨a6, c6, hv6, _⟩ := hO6.shape
                rw [canonOf_length] at hv6
                subst hv6
                go_wp2_with fail
                refine (TrmCanon_any (some ⟨g0, 0, none⟩) c1 t _ hlen hT6.row (unhide HW)).mono ?_
                rintro e w7 ⟨v7, rfl, hO7, hb7⟩
                have hB7 := bstep hB6 hb7
                have hX7 := OwnC.below hX6 hb7
                have hO67 := OwnC.below hO6 hb7
                obtain ⟨a7, c7, hv7, _⟩ := hO7.shape
                rw [canonOf_length] at hv7
                subst hv7
                have hcon2 := caTerm_any a6 a7 c6 c7 (canonOf t) (canonOf t) w7 (by rw [canonOf_length]; exact hml) hO67.row hO7.row
                rw [sameS_yes rfl, canonOf_length] at hcon2
                have HC2 := hide hcon2
                clear hcon2
                go_wp2_with fail
                refine (unhide HC2).mono ?_
                rintro e w8 ⟨rfl, hb8⟩
                have hB8 := bstep hB7 hb8
                have hX8 := OwnC.below hX7 hb8
                have hcon3 := TrmFree_any (some ⟨g, 0, none⟩) cp (t.map renC) w8 (by rw [List.length_map]; exact hlen) hX8.row hwx
                rw [List.length_map] at hcon3
                have HC3 := hide hcon3
                clear hcon3
                go_wp2_with fail
                refine (unhide HC3).mono ?_
                rintro e w9 ⟨v9, rfl, hO9, hb9⟩
                have hB9 := bstep hB8 hb9
                obtain ⟨a9, c9, hv9, _⟩ := hO9.shape
                rw [unhide HFX] at hv9
                subst hv9
                go_wp2
                go_ret
                exact ⟨ret_bool (by simp), hB9⟩
  · go_enter Try.func11, Try.ntmps11
    go_wp2
    go_ret
    exact ⟨rfl, Below.refl _ _⟩
end Go.Proofs.Ytddhjafpacgdaaa
