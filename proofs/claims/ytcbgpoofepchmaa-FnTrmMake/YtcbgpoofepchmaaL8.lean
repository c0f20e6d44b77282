/- The walk of the law FnTrmMake. -/
import Derived.Test.YtcbgpoofepchmaaD9
import Derived.Test.YtcbgpoofepchmaaT10
namespace Go.Proofs.Ytcbgpoofepchmaa
open Go.RowKit
set_option linter.unusedVariables false
set_option linter.unusedSimpArgs false

theorem makeOf_ne {s : ByteArray} {ts : List (List C)} (h : (makeOf s ts).length ≠ 0) : (∀ t ∈ ts, trm t = true) ∧ trm (⟨3, ts.length, s⟩ :: ts.flatten) = true ∧ makeOf s ts = ⟨3, ts.length, s⟩ :: ts.flatten := by
  by_cases e : ∀ t ∈ ts, trm t = true
  · rw [makeOf_all e] at h ⊢
    obtain ⟨h1, h2⟩ := listed_ne h
    exact ⟨e, h1, h2⟩
  · unfold makeOf at h
    rw [if_neg e] at h
    simp at h

theorem make_arg {s : ByteArray} {ts : List (List C)} (h : (makeOf s ts).length ≠ 0) {k : Nat} (hk : k < ts.length) : argOf (makeOf s ts) (k : Int) = ts[k] := by
  obtain ⟨h1, h2, h3⟩ := makeOf_ne h
  rw [h3, argOf_at (f := 40) h2 (by simp [ari]) (fun q hq => (trm_tree (h1 q hq)).mono (trm_len (h1 q hq)).2) (by omega), Int.toNat_natCast, List.getElem?_eq_getElem hk]
  rfl

theorem make_len {s : ByteArray} {ts : List (List C)} (h4 : ts.length ≤ 4) : (makeOf s ts).length ≤ 200 := by
  by_cases e : ∀ t ∈ ts, trm t = true
  · rw [makeOf_all e]
    have h1 := listed_len ((⟨3, ts.length, s⟩ : C) :: ts.flatten)
    have h2 := trm_lens ts e
    rw [List.length_cons] at h1
    omega
  · unfold makeOf
    rw [if_neg e]; simp

theorem make_fit {s : ByteArray} {ts : List (List C)} (hs : s.size ≤ maxLen) (hF : ∀ t ∈ ts, Fit t) : Fit (makeOf s ts) := by
  unfold makeOf listed
  split
  · split
    · intro c hc
      rcases List.mem_cons.1 hc with rfl | hc
      · exact hs
      · obtain ⟨t, ht, hc⟩ := List.mem_flatten.1 hc
        exact hF t ht c hc
    · exact fun c hc => by cases hc
  · exact fun c hc => by cases hc

set_option maxHeartbeats 4000000 in
theorem FnTrmMake_walk (ao : Option Addr) (len cap : Nat) (zz : Nat → Int) (w : World) (h : Bin w ao len cap zz) :
    Calls Try.prog 4 #[.slice ao len cap] w fun e w' => e = .returned (.bool true) ∧ Below w.heap.size w w' := by
  have hmx : len ≤ 9223372036854775807 := by have := h.1; have := h.2.1; unfold maxLen at this; omega
  by_cases hbig : len ≤ 1048576
  · go_enter Try.func4, Try.ntmps4
    go_wp2_with fail
    refine (drawTrmMake_any ao len cap zz _ h).mono ?_
    rintro e w1 ⟨s, ga, rc, ts, rfl, hRS1, h4, hD, hs9, hb1⟩
    have hsm : s.size ≤ maxLen := by unfold maxLen; omega
    have HF : Hid (∀ t ∈ ts, Fit t) := fun t ht => (dc_fit (hD t ht).2).1
    have HL : Hid (∀ t ∈ ts, t.length ≤ maxLen) := fun t ht => by have := (hD t ht).1; unfold maxLen; omega
    clear hD
    have H2 := hide (TrmMake_some ga 0 rc s ts w1 hsm (by omega) hRS1.at (unhide HF) (unhide HL))
    have HS2 := hide (fun w' (hR : AtS w' ga 0 ts) => specTrmMake_some ga 0 rc s ts w' hsm (by omega) hR (unhide HF) (unhide HL))
    have HNE := hide (@makeOf_ne s ts)
    have HAR := hide (@make_arg s ts)
    have hMl := make_len (s := s) h4
    have HMF := hide (make_fit hsm (unhide HF))
    obtain ⟨M, hM⟩ : ∃ M, M = makeOf s ts := ⟨_, rfl⟩
    rw [← hM] at H2 HS2 HNE HAR hMl HMF
    clear hM
    have hMm : M.length ≤ maxLen := by unfold maxLen; omega
    go_wp2_with fail
    refine (unhide H2).mono ?_
    clear H2
    rintro e w2 ⟨v2, rfl, hO2, hb2⟩
    have hB2 := bstep hb1 hb2
    have hRS2 := hRS1.below hb2
    obtain ⟨a2, c2, rfl, hc2, hcm2, hR2⟩ := hO2.shape2
    have HC := hide hc2
    have HCM := hide hcm2
    clear hc2 hcm2
    go_wp2_with fail
    refine (unhide HS2 _ hRS2.at).mono ?_
    rintro e w3 ⟨v3, rfl, hO3, hb3⟩
    have hB3 := bstep hB2 hb3
    have hRS3 := hRS2.below hb3
    have hM3 := OwnC.below hO2 hb3
    obtain ⟨a3, c3, rfl, hR3⟩ := hO3.shape
    go_wp2_with fail
    refine (caTerm_any a2 a3 c2 c3 M M _ hMm hM3.row hR3).mono ?_
    rw [sameS_yes rfl]
    rintro e w4 ⟨rfl, hb4⟩
    have hB4 := bstep hB3 hb4
    have hRS4 := hRS3.below hb4
    have hM4 := OwnC.below hM3 hb4
    by_cases hm0 : M.length = 0
    · have hz : ((M.length : Int) == 0) = true := by simp [hm0]
      clear hm0
      go_wp2_with fail
      refine (caOk_any _).mono ?_
      rintro e w5 ⟨rfl, hb5⟩
      go_wp2
      go_ret
      exact ⟨rfl, bstep hB4 hb5⟩
    · have hz : ((M.length : Int) == 0) = false := by simpa using hm0
      obtain ⟨hall, htM, hMe⟩ := unhide HNE hm0
      have HAR' := hide (fun (k : Nat) (hk : k < ts.length) => unhide HAR hm0 hk)
      have hpos : 1 ≤ M.length := by omega
      obtain ⟨g2, d2, hv2, _, hgl2, _⟩ := own_some hM4 hpos
      simp only [Value.slice.injEq] at hv2
      obtain ⟨rfl, _, rfl⟩ := hv2
      obtain ⟨e0, e1, e2⟩ := (owns_at hM4 rfl) 0 hpos
      have h0c : M[0]'hpos = ⟨3, ts.length, s⟩ := by
        have := hMe
        subst this
        rfl
      rw [h0c] at e0 e1 e2
      simp at e0 e1 e2
      have HTM : Hid (trm M = true) := by show trm M = true; rw [hMe]; exact htM
      clear hMe htM hall h0c hm0 HNE HAR
      go_wp2
      go_loopw [6] (fun i wr => ∃ k : Nat, k ≤ ts.length ∧ i = .int .i64 k ∧ Below w4.heap.size w4 wr) (fun i _ => ts.length - (intOf i).toNat)
      case atStart => exact ⟨0, Nat.zero_le _, rfl, Below.refl _ _⟩
      case round =>
        obtain ⟨k, hk, rfl, hB⟩ := hrel
        have hB5 := bstep hB4 hB
        have hM5 := OwnC.below hM4 hB
        have hRS5 := hRS4.below hB
        by_cases hlt : k < ts.length
        · have H6 := hide (fun (w' : World) (hR : Row w' (some ⟨g2, 0, none⟩) M) => TrmArg_any (some ⟨g2, 0, none⟩) c2 M k w' hMm (unhide HC) (unhide HCM) hR (unhide HMF))
          rw [unhide HAR' k hlt] at H6
          have hLk := unhide HL _ (List.getElem_mem hlt)
          obtain ⟨ak, ck, hck, _, _, hRk⟩ := hRS5.at k hlt
          have hgk : ga < wr.heap.size := World.block_lt_of_cell? wr _ hck
          obtain ⟨A, hA⟩ : ∃ A, A = ts[k] := ⟨_, rfl⟩
          rw [← hA] at H6 hLk hck hRk
          clear hA
          rw [Nat.zero_add] at hck
          have HRM : Hid (Row wr.drew (some ⟨g2, 0, none⟩) M) := hM5.row
          have HRK : Hid (Row wr.drew ak A) := hRk
          have hbd : Below wr.heap.size wr wr.drew := (Below.refl _ wr).drew
          have hckd : wr.drew.cell? ⟨ga, k, none⟩ = some (.slice ak A.length ck) := hck
          go_wp2_with fail
          go_region_with (first
            | (go_at_call 19; refine (unhide H6 _ (unhide HRM)).mono ?_; clear H6; rintro e w6 ⟨v6, rfl, hO6, hb6⟩; have hck6 := (hb6.cell (p := ⟨ga, k, none⟩) hgk).trans hckd; have hRk6 := (unhide HRK).below hb6; obtain ⟨a6, c6, rfl, hR6⟩ := hO6.shape)
            | (go_at_call 20; refine (caTerm_any a6 ak c6 ck A A _ hLk hR6 hRk6).mono ?_; rw [sameS_yes rfl]; rintro e w7 ⟨rfl, hb7⟩; have FIN := hide (bstep (bstep (bstep hB hbd) hb6) hb7)))
          all_goals go_wp2
          all_goals go_roundw
          all_goals first | exact ⟨k + 1, by omega, by go_num, unhide FIN⟩ | (simp [intOf]; omega)
        · have q1 := (hB.cell (p := ⟨g2, 1, none⟩) hgl2).trans e1
          have q2 := (hB.cell (p := ⟨g2, 2, none⟩) hgl2).trans e2
          have H6 := hide (TrmOk_any (some ⟨g2, 0, none⟩) c2 M wr hMm hM5.row (unhide HMF))
          rw [unhide HTM] at H6
          go_wp2_with fail
          refine (unhide H6).mono ?_
          clear H6
          rintro e w6 ⟨rfl, hb6⟩
          have r1 := (hb6.cell (p := ⟨g2, 1, none⟩) (by have := hB.size; simp; omega)).trans q1
          have r2 := (hb6.cell (p := ⟨g2, 2, none⟩) (by have := hB.size; simp; omega)).trans q2
          go_wp2
          go_ret
          exact ⟨rfl, bstep hB5 hb6⟩
  · go_enter Try.func4, Try.ntmps4
    go_wp2
    go_ret
    exact ⟨rfl, Below.refl _ _⟩
end Go.Proofs.Ytcbgpoofepchmaa
