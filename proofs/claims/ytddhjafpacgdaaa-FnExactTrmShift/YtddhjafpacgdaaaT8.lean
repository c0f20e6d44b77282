/- The walk of the model's TrmShift. -/
import Derived.Test.YtddhjafpacgdaaaSH2
import Derived.Test.YtddhjafpacgdaaaW15
namespace Go.Proofs.Ytddhjafpacgdaaa
open Go.RowKit
set_option linter.unusedVariables false
set_option linter.unusedSimpArgs false

theorem shift_step {t : List C} {k : Nat} (n : Int) (h : k < t.length) : (t.take (k + 1)).map (shiftC n) = (t.take k).map (shiftC n) ++ [shiftC n t[k]] := by
  rw [List.take_succ_eq_append_getElem h, List.map_append]; rfl

theorem shiftC_var {n : Int} {c : C} (h : c.k = 1) : shiftC n c = ⟨c.k, c.n + n, c.s⟩ := by simp [shiftC, h]
theorem shiftC_other {n : Int} {c : C} (h : c.k ≠ 1) : shiftC n c = c := by simp [shiftC, h]

set_option maxHeartbeats 2000000 in
theorem l1Shift_some (b off cap : Nat) (t : List C) (n : Int) (w : World) (hm : t.length ≤ 1048576) (hA : At w b off t) (hok : ∀ c ∈ t, okC c = true) (h0 : 0 ≤ n) (h1 : n ≤ 99999) :
    Calls Try.prog 73 #[.slice (some ⟨b, off, none⟩) t.length cap, .int .i64 n] w fun e w' => ∃ v, e = .returned v ∧ OwnC w' w.heap.size v (t.map (shiftC n)) ∧ Below w.heap.size w w' := by
  obtain ⟨i0, hi, hz0, hz1, hz2⟩ := info_parts Try.infoCell
  have HOK := hide hok
  clear hok
  go_enter Try.func73, Try.ntmps73
  go_wp2
  go_loopw [5, 6] (fun o i wr => ∃ (k : Nat), k ≤ t.length ∧ i = .int .i64 k ∧ OwnC wr w.heap.size o ((t.take k).map (shiftC n)) ∧ Below w.heap.size w wr) (fun _ i _ => t.length - (intOf i).toNat)
  case atStart =>
    refine ⟨0, Nat.zero_le _, rfl, ?_, cell_below _ _⟩
    exact World.ownsRow_made w #[] 0 (Nat.le_refl _) (by simp [maxLen]) rfl
  case round =>
    obtain ⟨k, hk, rfl, hown, hB⟩ := hrel
    by_cases hlt : k < t.length
    · obtain ⟨c0, c1, c2⟩ := (hA.below hB) k hlt
      have HS := hide (shift_step n hlt)
      have hokc := unhide HOK _ (List.getElem_mem hlt)
      obtain ⟨c, hc⟩ : ∃ c, c = t[k] := ⟨_, rfl⟩
      rw [← hc] at c0 c1 c2 HS hokc
      clear hc
      have hyl : ((t.take k).map (shiftC n)).length ≤ 1048576 := by simp; omega
      obtain ⟨y, hy⟩ : ∃ y, y = (t.take k).map (shiftC n) := ⟨_, rfl⟩
      rw [← hy] at hown HS hyl
      clear hy
      obtain ⟨ao, cp, rfl, _⟩ := hown.shape
      by_cases hk1 : c.k = 1
      · have hb : (c.k == 1) = true := by simpa using hk1
        have HK := hide (shiftC_var (n := n) hk1)
        have hrg := (okC1 hk1).1 hokc
        have hr0 := hrg.1
        have hr1 := hrg.2.1
        clear hk1 hokc hrg
        go_wp2_with (at_builtin; refine wpList_append_own _ rfl _ _ 23 rfl w.heap.size 36 i0 _ 3 32 Try.underlying23 hi hz0 hz1 hz2 rfl (by decide) _ _ _ rfl (World.ownsRow.alloc (World.ownsRow.alloc hown _) _) ⟨wr.heap.size + 1, 0, none⟩ 1 1 [.int .i64 c.k, .int .i64 (c.n + n), .string c.s] rfl rfl ?c1 ?c2 ?c3 ?c4 ?c5 ?_)
        case c1 =>
          intro j u hj
          have := cell_three_new (wr.alloc (.cells #[.int .i64 c.k, .int .i64 (c.n + n), .string c.s] 36)) _ _ _ 36 j u hj
          rw [World.size_alloc] at this
          exact this
        case c2 => intro u hu; simp at hu; rcases hu with rfl | rfl | rfl <;> rfl
        case c3 => unfold maxLen; omega
        case c4 => omega
        case c5 => have := hB.size; simp; omega
        · intro v' w2 hown' hgrow _
          have R := app_cell (c := ⟨c.k, c.n + n, c.s⟩) (hB.alloc hB.size _) (Nat.le_refl _) (World.ownsRow.alloc hown _) hown' hgrow
          clear hown' hgrow hown c0 c1 c2
          go_wp2
          go_roundw
          case rel => exact ⟨k + 1, by omega, by go_num, by rw [unhide HS, unhide HK]; exact R.1, R.2⟩
          case measure => simp [intOf]; omega
      · have hb : (c.k == 1) = false := by simpa using hk1
        have HK := hide (shiftC_other (n := n) hk1)
        clear hk1 hokc
        go_wp2_with (at_builtin; refine wpList_append_own _ rfl _ _ 23 rfl w.heap.size 36 i0 _ 3 32 Try.underlying23 hi hz0 hz1 hz2 rfl (by decide) _ _ _ rfl (World.ownsRow.alloc (World.ownsRow.alloc hown _) _) ⟨wr.heap.size + 1, 0, none⟩ 1 1 [.int .i64 c.k, .int .i64 c.n, .string c.s] rfl rfl ?d1 ?d2 ?d3 ?d4 ?d5 ?_)
        case d1 =>
          intro j u hj
          have := cell_three_new (wr.alloc (.cells #[.int .i64 c.k, .int .i64 c.n, .string c.s] 36)) _ _ _ 36 j u hj
          rw [World.size_alloc] at this
          exact this
        case d2 => intro u hu; simp at hu; rcases hu with rfl | rfl | rfl <;> rfl
        case d3 => unfold maxLen; omega
        case d4 => omega
        case d5 => have := hB.size; simp; omega
        · intro v' w2 hown' hgrow _
          have R := app_cell (c := c) (hB.alloc hB.size _) (Nat.le_refl _) (World.ownsRow.alloc hown _) hown' hgrow
          clear hown' hgrow hown c0 c1 c2
          go_wp2
          go_roundw
          case rel => exact ⟨k + 1, by omega, by go_num, by rw [unhide HS, unhide HK]; exact R.1, R.2⟩
          case measure => simp [intOf]; omega
    · rw [List.take_of_length_le (by omega)] at hown
      go_wp2
      go_ret
      exact ⟨_, rfl, hown, hB⟩

theorem made_nil {w w1 : World} (hb1 : Below w.heap.size w w1) : OwnC (w1.alloc (.cells #[] 36)) w.heap.size (.slice (some ⟨w1.heap.size, 0, none⟩) 0 0) [] :=
  OwnC.base (World.ownsRow_made w1 #[] 0 (Nat.le_refl _) (by simp [maxLen]) rfl) hb1.size

theorem fit_shift {t : List C} {n : Int} (h : Fit t) : Fit (t.map (shiftC n)) := fun c hc => by
  obtain ⟨c', hc', rfl⟩ := List.mem_map.1 hc
  have := h c' hc'
  unfold shiftC; split <;> exact this

set_option maxHeartbeats 2000000 in
theorem specTrmShift_any (ao : Option Addr) (cap : Nat) (t : List C) (n : Int) (w : World) (hm : t.length ≤ maxLen) (hA : Row w ao t) (hF : Fit t) :
    Calls Try.prog 33 #[.slice ao t.length cap, .int .i64 n] w fun e w' => ∃ v, e = .returned v ∧ OwnC w' w.heap.size v (shiftOf t n) ∧ Below w.heap.size w w' := by
  have H := hide (specTrmOk_any ao cap t w hm hA hF)
  cases hy : trm t with
  | false =>
    rw [hy] at H
    have HE := hide (shiftOf_no (n := n) hy)
    go_enter Try.func33, Try.ntmps33
    go_wp2_with (go_at_call 29; refine (unhide H).mono ?_; rintro e w1 ⟨rfl, hb1⟩)
    go_ret
    exact ⟨_, rfl, by rw [unhide HE]; exact made_nil hb1, bstep hb1 (cell_below _ _)⟩
  | true =>
    rw [hy] at H
    have hl := trm_len hy
    by_cases h : 0 ≤ n ∧ n ≤ 99999
    · have HE := hide (shiftOf_in (n := n) hy h.1 h.2)
      have hd : decide (0 ≤ n ∧ n ≤ 99999) = true := by simpa using h
      have HOK := hide ((trm_iff t).1 hy).2.2.1
      have h0 := h.1
      have h1 := h.2
      clear h
      rcases hA with rfl | ⟨b, off, rfl, hA⟩
      · simp at hl
      clear hy
      go_enter Try.func33, Try.ntmps33
      have HM : Hid ((t.map (shiftC n)).length ≤ maxLen) := by show (t.map (shiftC n)).length ≤ maxLen; rw [List.length_map]; exact hm
      go_wp2_with (first | (go_at_call 72; refine (l1In_any _ _ _ _).mono ?_; rw [hd]; rintro e w' ⟨rfl, rfl⟩) | (go_at_call 73; refine (l1Shift_some b off cap t n _ (by omega) (hA.below hb1) (unhide HOK) h0 h1).mono ?_; rintro e w2 ⟨v, rfl, hO, hb2⟩; obtain ⟨a2, c2, hv2, hR2⟩ := hO.shape; rw [List.length_map] at hv2; subst hv2; have H3 := hide (specTrmOk_any a2 c2 (t.map (shiftC n)) w2 (unhide HM) hR2 (fit_shift hF)); rw [List.length_map] at H3; have HO := hide hO; clear hO hR2) | (go_at_call 29; refine (unhide H).mono ?_; clear H; rintro e w1 ⟨rfl, hb1⟩) | fail)
      cases hz : trm (t.map (shiftC n)) with
      | false =>
        rw [hz] at H3
        refine (unhide H3).mono ?_
        rintro e w3 ⟨rfl, hb3⟩
        go_wp2
        go_ret
        refine ⟨_, rfl, ?_, bstep (bstep (bstep hb1 hb2) hb3) (cell_below _ _)⟩
        rw [unhide HE, listed, hz]
        exact made_nil (bstep (bstep hb1 hb2) hb3)
      | true =>
        rw [hz] at H3
        refine (unhide H3).mono ?_
        rintro e w3 ⟨rfl, hb3⟩
        go_wp2
        go_ret
        refine ⟨_, rfl, ?_, bstep (bstep hb1 hb2) hb3⟩
        rw [unhide HE, listed, hz]
        have := OwnC.base (OwnC.below (unhide HO) hb3) hb1.size
        exact this
    · have h' : n < 0 ∨ 99999 < n := by omega
      have HE := hide (shiftOf_out (t := t) h')
      have hd : decide (0 ≤ n ∧ n ≤ 99999) = false := by simpa using h
      clear h h' hy
      go_enter Try.func33, Try.ntmps33
      go_wp2_with (first | (go_at_call 29; refine (unhide H).mono ?_; clear H; rintro e w1 ⟨rfl, hb1⟩) | (go_at_call 72; refine (l1In_any _ _ _ _).mono ?_; rw [hd]; rintro e w' ⟨rfl, rfl⟩))
      go_ret
      exact ⟨_, rfl, by rw [unhide HE]; exact made_nil hb1, bstep hb1 (cell_below _ _)⟩
end Go.Proofs.Ytddhjafpacgdaaa
