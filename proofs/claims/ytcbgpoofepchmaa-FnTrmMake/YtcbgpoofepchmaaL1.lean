/- caOk; the walk of the law FnTrmWhole. -/
import Derived.Test.YtcbgpoofepchmaaD6
import Derived.Test.YtcbgpoofepchmaaPlain2
import Derived.Test.YtcbgpoofepchmaaW6
namespace Go.Proofs.Ytcbgpoofepchmaa
open Go.RowKit
set_option linter.unusedVariables false
set_option linter.unusedSimpArgs false

theorem fit_one : Fit [⟨2, 1, ByteArray.mk #[]⟩] := fun c hc => by simp at hc; subst hc; decide

set_option maxHeartbeats 400000 in
theorem caOk_any (w : World) : Calls Try.prog 23 #[] w fun e w' => e = .returned (.bool true) ∧ Below w.heap.size w w' := by
  have hA : At (w.alloc (.cells #[.int .i64 2, .int .i64 1, .string (ByteArray.mk #[])] 30)) w.heap.size 0 [⟨2, 1, ByteArray.mk #[]⟩] := fun i hi => by
    have h0 : i = 0 := by simp at hi; omega
    subst h0
    simp [go_sem]
  have h1 := TrmOk_some w.heap.size 0 1 [⟨2, 1, ByteArray.mk #[]⟩] _ (by simp [maxLen]) hA fit_one
  rw [trm_one] at h1
  have H := hide h1
  clear h1 hA
  go_enter Try.func23, Try.ntmps23
  go_wp2_with fail
  refine (unhide H).mono ?_
  rintro e w1 ⟨rfl, hb1⟩
  go_wp2
  go_ret
  exact ⟨rfl, bstep (cell_below _ _) hb1⟩

set_option maxHeartbeats 2000000 in
theorem FnTrmWhole_walk (ao : Option Addr) (len cap : Nat) (z : Nat → Int) (w : World) (h : Bin w ao len cap z) :
    Calls Try.prog 9 #[.slice ao len cap] w fun e w' => e = .returned (.bool true) ∧ Below w.heap.size w w' := by
  have hmx : len ≤ 9223372036854775807 := by have := h.1; have := h.2.1; unfold maxLen at this; omega
  obtain ⟨i0, hi, hz0, hz1, hz2⟩ := info_parts Try.infoCell
  by_cases hbig : len ≤ 1048576
  · go_enter Try.func9, Try.ntmps9
    go_wp2_with fail
    refine (drawTrmOk_any ao len cap z _ h).mono ?_
    rintro e w1 ⟨v, t, rfl, hO1, ht41, hDc, hb1⟩
    obtain ⟨hFit, hWf⟩ := dc_fit hDc
    clear hDc hWf
    have HF := hide hFit
    clear hFit
    obtain ⟨a1, c1, rfl, hR1⟩ := hO1.shape
    have hml : t.length ≤ maxLen := by unfold maxLen; omega
    go_wp2_with fail
    refine (TrmOk_any a1 c1 t _ hml hR1 (unhide HF)).mono ?_
    rintro e w2 ⟨rfl, hb2⟩
    have hB2 := bstep hb1 hb2
    have hO2 := OwnC.below hO1 hb2
    go_wp2_with fail
    refine (specTrmOk_any a1 c1 t _ hml hO2.row (unhide HF)).mono ?_
    rintro e w3 ⟨rfl, hb3⟩
    have hB3 := bstep hB2 hb3
    have hO3 := OwnC.below hO2 hb3
    cases hok : trm t with
    | false =>
      go_wp2_with fail
      refine (caOk_any _).mono ?_
      rintro e w4 ⟨rfl, hb4⟩
      go_wp2
      go_ret
      exact ⟨rfl, bstep hB3 hb4⟩
    | true =>
      have hl := trm_len hok
      obtain ⟨g, cp, hv, hgb, hgl, hcp⟩ := own_some hO3 hl.1
      simp only [Value.slice.injEq] at hv
      obtain ⟨rfl, _, rfl⟩ := hv
      have HOK := hide hok
      go_wp2
      go_loopw [5] (fun i wr => ∃ k : Nat, k ≤ t.length ∧ i = .int .i64 k ∧ Below w3.heap.size w3 wr) (fun i _ => t.length - (intOf i).toNat)
      case atStart => exact ⟨0, Nat.zero_le _, rfl, Below.refl _ _⟩
      case round =>
        obtain ⟨k, hk, rfl, hB⟩ := hrel
        have hO := OwnC.below hO3 hB
        by_cases hlt : k < t.length
        · have hcut := own_cut hO (k := k) (by omega)
          have hcon := TrmOk_any (some ⟨g, 0, none⟩) c1 (t.take k) wr (by unfold maxLen; simp; omega) hcut.row (fun c hc => unhide HF c (List.mem_of_mem_take hc))
          rw [trm_take (unhide HOK) hlt, List.length_take, Nat.min_eq_left (by omega)] at hcon
          have HCON := hide hcon
          clear hcon hcut
          have hkc : k ≤ c1 := by omega
          go_wp2_with fail
          refine (unhide HCON).mono ?_
          rintro e w4 ⟨rfl, hb4⟩
          clear HCON
          go_wp2
          go_roundw
          case rel => exact ⟨k + 1, by omega, by go_num, bstep hB hb4⟩
          case measure => simp [intOf]; omega
        · have hBw := bstep hB3 hB
          have hA1 : At (wr.alloc (.cells #[] 30)) g 0 t := (owns_at hO rfl).below (cell_below _ _)
          have HA1 := hide hA1.each
          clear hA1
          go_wp2_with (at_builtin; refine wpList_append_own _ rfl (.tmp 30) (.tmp 31) 23 rfl wr.heap.size 30 i0 _ 3 32 Try.underlying23 hi hz0 hz1 hz2 rfl (by decide) _ _ _ rfl (World.ownsRow_made wr #[] 0 (Nat.le_refl _) (by simp [maxLen]) rfl) ⟨g, 0, none⟩ t.length c1 (flat t) rfl (flat_length t) (unhide HA1) (flat_one t) ?s3 ?s4 ?s5 ?_)
          case s3 => unfold maxLen; omega
          case s4 => omega
          case s5 => simp
          intro v5 w5 ho5 hG5 _
          have hO5 : OwnC w5 wr.heap.size v5 t := ho5
          have hb5 : Below wr.heap.size wr w5 := (cell_below wr (.cells #[] 30)).grown hG5 (by simp) (fun k e => by simp [Value.ownBlock] at e; omega)
          clear ho5 hG5
          obtain ⟨a5, c5, rfl, _⟩ := hO5.shape
          go_wp2_with (at_builtin; refine wpList_append_own _ rfl (.tmp 32) (.tmp 34) 23 rfl wr.heap.size 30 i0 _ 3 32 Try.underlying23 hi hz0 hz1 hz2 rfl (by decide) _ _ _ rfl (World.ownsRow.alloc hO5 _) ⟨w5.heap.size, 0, none⟩ 1 1 [.int .i64 2, .int .i64 0, .string (ByteArray.mk #[])] rfl rfl (cell_three_new _ _ _ _ _) ?t2 ?t3 ?t4 ?t5 ?_)
          case t2 => intro u hu; simp at hu; rcases hu with rfl | rfl | rfl <;> rfl
          case t3 => unfold maxLen; omega
          case t4 => omega
          case t5 => have := hb5.size; simp; omega
          intro v6 w6 ho6 hG6 _
          have RR := app_cell (c := ⟨2, 0, ByteArray.mk #[]⟩) hb5 (Nat.le_refl _) hO5 ho6 hG6
          clear ho6 hG6
          obtain ⟨a6, c6, hv6, hR6⟩ := RR.1.shape
          have hl6 : (t ++ [(⟨2, 0, ByteArray.mk #[]⟩ : C)]).length = t.length + 1 := by simp
          rw [hl6] at hv6
          subst hv6
          have hcon := TrmOk_any a6 c6 (t ++ [⟨2, 0, ByteArray.mk #[]⟩]) w6 (by unfold maxLen; simp; omega) hR6 (fun c hc => by
            rcases List.mem_append.1 hc with h' | h'
            · exact unhide HF c h'
            · simp at h'; subst h'; decide)
          rw [trm_more (unhide HOK), hl6] at hcon
          clear hl6
          have HCON := hide hcon
          clear hcon
          go_wp2_with fail
          refine (unhide HCON).mono ?_
          rintro e w7 ⟨rfl, hb7⟩
          clear HCON
          go_wp2
          go_ret
          exact ⟨ret_bool (by simp; omega), bstep (bstep hBw RR.2) hb7⟩
  · go_enter Try.func9, Try.ntmps9
    go_wp2
    go_ret
    exact ⟨rfl, Below.refl _ _⟩
end Go.Proofs.Ytcbgpoofepchmaa
