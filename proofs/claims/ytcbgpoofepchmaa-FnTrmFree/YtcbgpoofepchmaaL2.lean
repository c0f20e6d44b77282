/- The walk of the law FnTrmFree. -/
import Derived.Test.YtcbgpoofepchmaaL1
import Derived.Test.YtcbgpoofepchmaaW15
namespace Go.Proofs.Ytcbgpoofepchmaa
open Go.RowKit
set_option linter.unusedVariables false
set_option linter.unusedSimpArgs false

theorem addV_prefix (acc : List Int) (c : C) : ∃ s, addV acc c = acc ++ s := by
  unfold addV
  split
  · split
    · exact ⟨[], by simp⟩
    · exact ⟨_, rfl⟩
  · exact ⟨[], by simp⟩
theorem fold_prefix : ∀ (t : List C) (acc : List Int), ∃ s, t.foldl addV acc = acc ++ s
  | [], acc => ⟨[], by simp⟩
  | c :: t, acc => by
      obtain ⟨s1, h1⟩ := addV_prefix acc c
      obtain ⟨s2, h2⟩ := fold_prefix t (addV acc c)
      exact ⟨s1 ++ s2, by rw [List.foldl_cons, h2, h1, List.append_assoc]⟩
theorem freeOf_prefix (t : List C) (k : Nat) : ∃ s, freeOf t = freeOf (t.take k) ++ s := by
  obtain ⟨s, h⟩ := fold_prefix (t.drop k) (freeOf (t.take k))
  refine ⟨s, ?_⟩
  rw [← h]
  show freeOf t = (t.drop k).foldl addV ((t.take k).foldl addV [])
  rw [← List.foldl_append, List.take_append_drop]
  rfl

theorem nodup_get {z : List Int} (h : z.Nodup) {i j : Nat} (hi : i < z.length) (hj : j < z.length) (hne : i ≠ j) : z[i] ≠ z[j] := by
  intro e
  exact hne ((List.getElem_inj h).1 e)

/-- How the scan goes on: a variable that is new is the next of the list, one that is old is not. -/
theorem scan_new {t : List C} {k : Nat} (hk : k < t.length) (h1 : t[k].k = 1) (hn : t[k].n ∉ freeOf (t.take k)) :
    ∃ h : (freeOf (t.take k)).length < (freeOf t).length, (freeOf t)[(freeOf (t.take k)).length] = t[k].n := by
  obtain ⟨s, hs⟩ := freeOf_prefix t (k + 1)
  rw [freeOf_step hk, addV_new h1 hn] at hs
  refine ⟨by rw [hs]; simp, ?_⟩
  simp only [hs, List.append_assoc]
  rw [List.getElem_append_right (Nat.le_refl _)]
  simp
theorem scan_old {t : List C} {k : Nat} {x : Int} (hn : x ∈ freeOf (t.take k)) (h : (freeOf (t.take k)).length < (freeOf t).length) : (freeOf t)[(freeOf (t.take k)).length] ≠ x := by
  obtain ⟨s, hs⟩ := freeOf_prefix t k
  obtain ⟨j, hj, he⟩ := List.mem_iff_getElem.1 hn
  have hj' : j < (freeOf t).length := by omega
  have e2 : (freeOf t)[j] = (freeOf (t.take k))[j] := by simp only [hs]; rw [List.getElem_append_left hj]
  rw [← he, ← e2]
  exact (nodup_get (freeOf_nodup t) hj' h (by omega)).symm
theorem scan_le (t : List C) (k : Nat) : (freeOf (t.take k)).length ≤ (freeOf t).length := by
  obtain ⟨s, hs⟩ := freeOf_prefix t k
  rw [hs]; simp

set_option maxHeartbeats 4000000 in
theorem FnTrmFree_walk (ao : Option Addr) (len cap : Nat) (zz : Nat → Int) (w : World) (h : Bin w ao len cap zz) :
    Calls Try.prog 7 #[.slice ao len cap] w fun e w' => e = .returned (.bool true) ∧ Below w.heap.size w w' := by
  have hmx : len ≤ 9223372036854775807 := by have := h.1; have := h.2.1; unfold maxLen at this; omega
  by_cases hbig : len ≤ 1048576
  · go_enter Try.func7, Try.ntmps7
    go_wp2_with fail
    refine (drawTrmFree_any ao len cap zz _ h).mono ?_
    rintro e w1 ⟨v, t, rfl, hO1, ht41, hDc, hb1⟩
    obtain ⟨hFit, hWf⟩ := dc_fit hDc
    clear hDc hFit
    obtain ⟨a1, c1, rfl, hR1⟩ := hO1.shape
    have hlen : t.length ≤ 1048576 := by omega
    go_wp2_with fail
    refine (TrmFree_any a1 c1 t _ hlen hR1 hWf).mono ?_
    rintro e w2 ⟨v2, rfl, hO2, hb2⟩
    clear hWf
    have hB2 := bstep hb1 hb2
    have hT2 := OwnC.below hO1 hb2
    obtain ⟨z, hz⟩ : ∃ z, z = freeOf t := ⟨_, rfl⟩
    have hzl : z.length ≤ t.length := by rw [hz]; exact freeOf_len t
    rw [← hz] at hO2
    have HZ := hide hz
    clear hz
    obtain ⟨a2, c2, rfl, hR2⟩ := hO2.shape
    go_wp2_with fail
    refine (specTrmFree_any a1 c1 t _ hlen hT2.row).mono ?_
    rw [← unhide HZ]
    rintro e w3 ⟨v3, rfl, hO3, hb3⟩
    have hB3 := bstep hB2 hb3
    have hT3 := OwnC.below hT2 hb3
    have hF3 := OwnI.below hO2 hb3
    obtain ⟨a3, c3, rfl, hR3⟩ := hO3.shape
    go_wp2_with fail
    refine (caInts_any a2 a3 c2 c3 z z _ (by unfold maxLen; omega) hF3.row hR3).mono ?_
    rw [decide_eq_yes rfl]
    rintro e w4 ⟨rfl, hb4⟩
    have hB4 := bstep hB3 hb4
    have hT4 := (OwnC.below hT3 hb4).row
    have hF4 := (OwnI.below hF3 hb4).row
    clear hO1 hT2 hT3 hO2 hF3 hO3 hR1 hR2 hR3
    rcases hT4 with ht | ⟨b, off, rfl, hA⟩
    · have hz0 : z = [] := by rw [unhide HZ, ht]; rfl
      subst hz0
      subst ht
      go_wp2
      refine wp_loop_rounds 1 ?_
      rw [rounds_succ]
      go_wp2
      refine wp_loop_rounds 1 ?_
      rw [rounds_succ]
      go_wp2_with fail
      refine (caOk_any _).mono ?_
      rintro e w5 ⟨rfl, hb5⟩
      go_wp2
      go_ret
      exact ⟨rfl, bstep hB4 hb5⟩
    · rcases hF4 with hz0 | ⟨b2, off2, rfl, hF⟩
      · subst hz0
        go_wp2
        go_loopw [5, 6] (fun n i wr => ∃ k : Nat, k ≤ t.length ∧ i = .int .i64 k ∧ n = .int .i64 ((freeOf (t.take k)).length : Int) ∧ Below w4.heap.size w4 wr) (fun _ i _ => t.length - (intOf i).toNat)
        case atStart => exact ⟨0, Nat.zero_le _, rfl, rfl, Below.refl _ _⟩
        case round =>
          obtain ⟨k, hk, rfl, rfl, hB⟩ := hrel
          have hsl := scan_le t k
          rw [← unhide HZ] at hsl
          by_cases hlt : k < t.length
          · obtain ⟨d0, d1, d2⟩ := (hA.below hB) k hlt
            have HS := hide (freeOf_step hlt)
            have HNEW := hide (scan_new hlt)
            have HOLD := hide (scan_old (t := t) (k := k) (x := t[k].n))
            have HMEM := hide (show t[k].k = 1 → t[k].n ∈ ([] : List Int) from fun h => by rw [unhide HZ, mem_freeOf]; exact ⟨_, List.getElem_mem hlt, h, rfl⟩)
            obtain ⟨c, hc⟩ : ∃ c, c = t[k] := ⟨_, rfl⟩
            rw [← hc] at d0 d1 d2 HS HNEW HOLD HMEM
            clear hc
            obtain ⟨y, hy⟩ : ∃ y, y = freeOf (t.take k) := ⟨_, rfl⟩
            rw [← hy] at HS hsl HNEW HOLD
            have HY := hide hy
            rw [← hy]
            clear hy
            by_cases hk1 : c.k = 1
            · have hb : (c.k != 1) = false := by simpa using hk1
              have HK := hide hk1
              clear hk1
              exact absurd (unhide HMEM (unhide HK)) List.not_mem_nil
            · have hb : (c.k != 1) = true := by simpa using hk1
              have HK := hide hk1
              clear hk1
              go_wp2
              go_roundw
              case rel => exact ⟨k + 1, by omega, by go_num, by rw [unhide HS, addV_other (unhide HK)], hB⟩
              case measure => simp [intOf]; omega
          · have hfull : freeOf (t.take k) = [] := by rw [List.take_of_length_le (by omega), ← unhide HZ]
            rw [hfull]
            clear hfull hsl
            go_wp2
            refine wp_loop_rounds 1 ?_
            rw [rounds_succ]
            go_wp2_with fail
            refine (caOk_any _).mono ?_
            rintro e w5 ⟨rfl, hb5⟩
            go_wp2
            go_ret
            exact ⟨rfl, bstep (bstep hB4 hB) hb5⟩
      · have hdummy := trivial; clear hdummy
        go_wp2
        go_loopw [5, 6] (fun n i wr => ∃ k : Nat, k ≤ t.length ∧ i = .int .i64 k ∧ n = .int .i64 ((freeOf (t.take k)).length : Int) ∧ Below w4.heap.size w4 wr) (fun _ i _ => t.length - (intOf i).toNat)
        case atStart => exact ⟨0, Nat.zero_le _, rfl, rfl, Below.refl _ _⟩
        case round =>
          obtain ⟨k, hk, rfl, rfl, hB⟩ := hrel
          have hsl := scan_le t k
          rw [← unhide HZ] at hsl
          by_cases hlt : k < t.length
          · obtain ⟨d0, d1, d2⟩ := (hA.below hB) k hlt
            have HS := hide (freeOf_step hlt)
            have HNEW := hide (scan_new hlt)
            have HOLD := hide (scan_old (t := t) (k := k) (x := t[k].n))
            have HMEM := hide (show t[k].k = 1 → t[k].n ∈ z from fun h => by rw [unhide HZ, mem_freeOf]; exact ⟨_, List.getElem_mem hlt, h, rfl⟩)
            obtain ⟨c, hc⟩ : ∃ c, c = t[k] := ⟨_, rfl⟩
            rw [← hc] at d0 d1 d2 HS HNEW HOLD HMEM
            clear hc
            obtain ⟨y, hy⟩ : ∃ y, y = freeOf (t.take k) := ⟨_, rfl⟩
            rw [← hy] at HS hsl HNEW HOLD
            have HY := hide hy
            rw [← hy]
            clear hy
            by_cases hk1 : c.k = 1
            · have hb : (c.k != 1) = false := by simpa using hk1
              have HK := hide hk1
              clear hk1
              by_cases hin : c.n ∈ y
              · by_cases hnl : y.length < z.length
                · have e0 := (hF.below hB) y.length hnl
                  have hne := unhide HOLD hin (by rw [← unhide HZ]; exact hnl)
                  have hcast : z[y.length] ≠ c.n := by simpa only [unhide HZ] using hne
                  obtain ⟨q, hq⟩ : ∃ q, q = z[y.length] := ⟨_, rfl⟩
                  rw [← hq] at e0 hcast
                  clear hq hne
                  have hqb : (q == c.n) = false := by simpa using hcast
                  clear hcast
                  go_wp2
                  go_quiet (fail)
                  go_wp2
                  go_roundw
                  case rel => exact ⟨k + 1, by omega, by go_num, by rw [unhide HS, addV_old hin], below_drewN hB _⟩
                  case measure => simp [intOf]; omega
                · have hd : decide ((y.length : Int) < (z.length : Int)) = false := by simp; omega
                  go_wp2
                  go_quiet (fail)
                  go_wp2
                  go_roundw
                  case rel => exact ⟨k + 1, by omega, by go_num, by rw [unhide HS, addV_old hin], below_drewN hB _⟩
                  case measure => simp [intOf]; omega
              · obtain ⟨hnl, hnew⟩ := unhide HNEW (unhide HK) hin
                have hnl' : y.length < z.length := by rw [unhide HZ]; exact hnl
                have e0 := (hF.below hB) y.length hnl'
                have hcast : z[y.length] = c.n := by simpa only [unhide HZ] using hnew
                rw [hcast] at e0
                clear hcast hnew hnl
                have hqb : (c.n == c.n) = true := by simp
                go_wp2
                go_quiet (fail)
                go_wp2
                go_roundw
                case rel => exact ⟨k + 1, by omega, by go_num, by rw [unhide HS, addV_new (unhide HK) hin]; simp, below_drewN hB _⟩
                case measure => simp [intOf]; omega
            · have hb : (c.k != 1) = true := by simpa using hk1
              have HK := hide hk1
              clear hk1
              go_wp2
              go_roundw
              case rel => exact ⟨k + 1, by omega, by go_num, by rw [unhide HS, addV_other (unhide HK)], hB⟩
              case measure => simp [intOf]; omega
          · have hfull : freeOf (t.take k) = z := by rw [List.take_of_length_le (by omega), ← unhide HZ]
            rw [hfull]
            clear hfull hsl
            have HND := hide (freeOf_nodup t)
            rw [← unhide HZ] at HND
            go_wp2
            go_loopw [7, 8] (fun i _ wr2 => ∃ m : Nat, m ≤ z.length ∧ i = .int .i64 m ∧ Below w4.heap.size w4 wr2) (fun i _ _ => z.length - (intOf i).toNat)
            case atStart => exact ⟨0, Nat.zero_le _, rfl, hB⟩
            case round =>
              obtain ⟨m, hm, rfl, hB5⟩ := hrel
              by_cases hmz : m < z.length
              · go_wp2
                go_loopw [8] (fun i wr3 => ∃ j : Nat, j ≤ m ∧ i = .int .i64 j ∧ Below w4.heap.size w4 wr3) (fun i _ => m - (intOf i).toNat)
                case atStart => exact ⟨0, Nat.zero_le _, rfl, hB5⟩
                case round =>
                  obtain ⟨j, hj, rfl, hB6⟩ := hrel
                  by_cases hjm : j < m
                  · have e0 := (hF.below hB6) j (by omega)
                    have e1 := (hF.below hB6) m hmz
                    have hne := nodup_get (unhide HND) (i := j) (j := m) (by omega) hmz (by omega)
                    obtain ⟨q, hq⟩ : ∃ q, q = z[j]'(by omega) := ⟨_, rfl⟩
                    rw [← hq] at e0 hne
                    clear hq
                    obtain ⟨q', hq'⟩ : ∃ q, q = z[m] := ⟨_, rfl⟩
                    rw [← hq'] at e1 hne
                    clear hq'
                    have hqb : (q == q') = false := by simpa using hne
                    clear hne
                    go_wp2
                    go_quiet (fail)
                    go_wp2
                    go_roundw
                    case rel => exact ⟨j + 1, by omega, by go_num, below_drewN hB6 _⟩
                    case measure => simp [intOf]; omega
                  · go_wp2
                    go_roundw
                    case rel => exact ⟨m + 1, by omega, by go_num, hB6⟩
                    case measure => simp [intOf]; omega
              · have hzz : ((z.length : Int) == (z.length : Int)) = true := by simp
                go_wp2_with fail
                refine (caOk_any _).mono ?_
                rintro e w5 ⟨rfl, hb5⟩
                go_wp2
                go_ret
                exact ⟨rfl, bstep (bstep hB4 hB5) hb5⟩
  · go_enter Try.func7, Try.ntmps7
    go_wp2
    go_ret
    exact ⟨rfl, Below.refl _ _⟩
end Go.Proofs.Ytcbgpoofepchmaa
