/- Marks once more, over longer rows. -/
import Derived.Test.YtkedckmpjedjoaaQSB4SB5
import Derived.Test.YtkedckmpjedjoaaQW10W13
namespace Go.Proofs.Ytkedckmpjedjoaa
open Go.RowKit Go.Maps
set_option linter.unusedVariables false
set_option linter.unusedSimpArgs false

set_option maxHeartbeats 1000000 in
theorem markTrmCellL_some (g cap : Nat) (t : List C) (k base : Nat) (w : World) (hm : t.length ≤ 8388608) (hk1 : 1 ≤ k) (hk : k + 3 * t.length ≤ 16777000) (hA : w.ownsRow base 98 3 (.slice (some ⟨g, 0, none⟩) t.length cap) t.length (flat t)) :
    Calls Try.prog 22 #[.slice (some ⟨g, 0, none⟩) t.length cap, .int .i64 k] w fun e w' => e = .returned (.int .i64 ((k + 3 * t.length : Nat) : Int)) ∧
      w'.ownsRow base 98 3 (.slice (some ⟨g, 0, none⟩) t.length cap) t.length (flat (marksC t.length k)) ∧ w.grownBy w' (some g) := by
  go_enter Try.func22, Try.ntmps22
  go_wp2
  go_loopw [1, 5] (fun m i wr => ∃ (j : Nat) (xs : List Value), j ≤ t.length ∧ i = .int .i64 j ∧ m = .int .i64 ((k + 3 * j : Nat) : Int) ∧ wr.ownsRow base 98 3 (.slice (some ⟨g, 0, none⟩) t.length cap) t.length xs ∧ xs.take (j * 3) = flat (marksC j k) ∧ w.grownBy wr (some g)) (fun _ i _ => t.length - (intOf i).toNat)
  case atStart => exact ⟨0, _, Nat.zero_le _, rfl, by simp, hA, by simp [flat, marksC], grown_refl _ _⟩
  case round =>
    obtain ⟨j, xs, hj, rfl, rfl, hown, hx, hG⟩ := hrel
    have HX := hide hx
    have hl := hown.1
    clear hx
    by_cases hlt : j < t.length
    · have d0 : wr.cell? ⟨g, j * 3, none⟩ = some (xs[j * 3]'(by omega)) := by rw [hown.cellAt _ (by omega)]; exact List.getElem?_eq_getElem _
      have d1 : wr.cell? ⟨g, j * 3 + 1, none⟩ = some (xs[j * 3 + 1]'(by omega)) := by rw [hown.cellAt _ (by omega)]; exact List.getElem?_eq_getElem _
      obtain ⟨u, hu⟩ : ∃ u, u = xs[j * 3]'(by omega) := ⟨_, rfl⟩
      rw [← hu] at d0
      clear hu
      obtain ⟨u', hu⟩ : ∃ u, u = xs[j * 3 + 1]'(by omega) := ⟨_, rfl⟩
      rw [← hu] at d1
      clear hu
      have f0 := hown.frozenAt (j * 3)
      have f1 := hown.frozenAt (j * 3 + 1)
      have HO := hide hown
      clear hl hown
      go_wp2_with fail
      refine (markText_int _ _ (by omega) (by omega)).mono ?_
      rintro e w3 ⟨rfl, hb3⟩
      rw [show ((k : Int) + 3 * (j : Int) + 1 + 1).toNat = k + 3 * j + 2 from by omega]
      have R := mark_round hlt (unhide HO) (unhide HX) hG _ _ (by omega) (by omega) hb3
      obtain ⟨⟨u2, d2⟩, f2, R⟩ := R
      have HR := hide R
      clear R d0 d1 f0 f1
      go_wp2
      go_roundw
      case rel =>
        obtain ⟨xs', r1, r2, r3⟩ := unhide HR
        exact ⟨j + 1, xs', by omega, by go_num, by go_num, r1, r2, r3⟩
      case measure => simp [intOf]; omega
    · go_wp2
      go_ret
      have hjl : j = t.length := by omega
      refine ⟨ret_int (by omega), ?_, hG⟩
      have := unhide HX
      rw [List.take_of_length_le (by omega), hjl] at this
      rw [← this]
      exact hown


theorem markTrmCellL_any (ao : Option Addr) (cap : Nat) (t : List C) (k base : Nat) (w : World) (hm : t.length ≤ 8388608) (hk1 : 1 ≤ k) (hk : k + 3 * t.length ≤ 16777000) (hA : OwnC w base (.slice ao t.length cap) t) :
    Calls Try.prog 22 #[.slice ao t.length cap, .int .i64 k] w fun e w' => e = .returned (.int .i64 ((k + 3 * t.length : Nat) : Int)) ∧
      OwnC w' base (.slice ao t.length cap) (marksC t.length k) ∧ w.grownBy w' (Value.slice ao t.length cap).ownBlock := by
  unfold OwnC at hA ⊢
  rw [marksC_length]
  by_cases h0 : t.length = 0
  · have hz : t = [] := List.length_eq_zero_iff.1 h0
    subst hz
    refine (markTrmCellS_none ao cap k w).mono ?_
    rintro e w' ⟨rfl, rfl⟩
    exact ⟨ret_int (by simp), hA, grown_refl _ _⟩
  · rcases hA.2 with ⟨e, hn⟩ | ⟨g, cap', cur, e, _⟩
    · exact absurd hn h0
    · simp only [Value.slice.injEq] at e
      obtain ⟨rfl, _, rfl⟩ := e
      exact markTrmCellL_some g cap t k base w hm hk1 hk hA


set_option maxHeartbeats 1000000 in
theorem heldTrmCellL_some (b off cap n k : Nat) (w : World) (hm : n ≤ 8388608) (hk1 : 1 ≤ k) (hk : k + 3 * n ≤ 16777000) (hA : At w b off (marksC n k)) :
    Calls Try.prog 40 #[.slice (some ⟨b, off, none⟩) n cap, .int .i64 k] w fun e w' => e = .returned (.int .i64 ((k + 3 * n : Nat) : Int)) ∧ Below w.heap.size w w' := by
  go_enter Try.func40, Try.ntmps40
  go_wp2
  go_loopw [1, 5] (fun m i wr => ∃ (j : Nat), j ≤ n ∧ i = .int .i64 j ∧ m = .int .i64 ((k + 3 * j : Nat) : Int) ∧ Below w.heap.size w wr) (fun _ i _ => n - (intOf i).toNat)
  case atStart => exact ⟨0, Nat.zero_le _, rfl, by simp, Below.refl _ _⟩
  case round =>
    obtain ⟨j, hj, rfl, rfl, hB⟩ := hrel
    by_cases hlt : j < n
    · obtain ⟨d0, d1, d2⟩ := (hA.below hB) j (by simpa [marksC] using hlt)
      rw [marksC_get] at d0 d1 d2
      simp only at d0 d1 d2
      obtain ⟨s, hs⟩ : ∃ s, s = mtext (k + 3 * j + 2) := ⟨_, rfl⟩
      rw [← hs] at d2
      have HS := hide hs
      clear hs
      have hst : (s.toList == s.toList) = true := by simp
      have hbl : b < wr.heap.size := World.block_lt_of_cell? wr ⟨b, _, none⟩ d2
      go_wp2
      go_region_with (go_at_call 66; refine (markText_int _ _ (by omega) (by omega)).mono ?_; rw [show ((k : Int) + 3 * (j : Int) + 1 + 1).toNat = k + 3 * j + 2 from by omega, ← unhide HS]; rintro e w1 ⟨rfl, hb1⟩; have q2 := (hb1.cell (p := ⟨b, off + j * 3 + 2, none⟩) (by simpa using hbl)).trans (by simpa using d2))
      all_goals go_wp2
      all_goals go_roundw
      all_goals first | exact ⟨j + 1, by omega, by go_num, by go_num, bstep hB.drew (by assumption)⟩ | (simp [intOf]; omega)
    · go_wp2
      go_ret
      exact ⟨ret_int (by omega), hB⟩

theorem heldTrmCellL_any (ao : Option Addr) (cap n k : Nat) (w : World) (hm : n ≤ 8388608) (hk1 : 1 ≤ k) (hk : k + 3 * n ≤ 16777000) (hA : Row w ao (marksC n k)) :
    Calls Try.prog 40 #[.slice ao n cap, .int .i64 k] w fun e w' => e = .returned (.int .i64 ((k + 3 * n : Nat) : Int)) ∧ Below w.heap.size w w' := by
  rcases hA with h | ⟨b, off, rfl, hA⟩
  · have hn : n = 0 := by have := congrArg List.length h; simpa [marksC_length] using this
    subst hn
    refine (heldTrmCellS_none ao cap k w).mono ?_
    rintro e w' ⟨rfl, rfl⟩
    exact ⟨ret_int (by simp), Below.refl _ _⟩
  · exact heldTrmCellL_some b off cap n k w hm hk1 hk hA


set_option maxRecDepth 100000 in
set_option maxHeartbeats 1000000 in
theorem markSubBindL_some (g cap lo hi : Nat) (s : List B) (k : Nat) (w : World) (hm : s.length + tot s ≤ 4194304) (hk1 : 1 ≤ k) (hk : k ≤ 16) (hA : OwnB w lo hi (.slice (some ⟨g, 0, none⟩) s.length cap) s) :
    Calls Try.prog 68 #[.slice (some ⟨g, 0, none⟩) s.length cap, .int .i64 k] w fun e w' => e = .returned (.int .i64 ((endM s k : Nat) : Int)) ∧
      OwnB w' lo hi (.slice (some ⟨g, 0, none⟩) s.length cap) (marksB s k) ∧ Btw lo hi w w' := by
  go_enter Try.func68, Try.ntmps68
  go_wp2
  go_loopw [1, 5] (fun m i wr => ∃ (j e : Nat), j ≤ s.length ∧ i = .int .i64 j ∧ m = .int .i64 (e : Int) ∧ e = endM (s.take j) k ∧ OwnB wr lo hi (.slice (some ⟨g, 0, none⟩) s.length cap) (midM s j k) ∧ Btw lo hi w wr) (fun _ i _ => s.length - (intOf i).toNat)
  case atStart => exact ⟨0, k, Nat.zero_le _, rfl, rfl, by simp [endM, tot], by simpa [midM, marksB] using hA, Btw.refl _ _ _⟩
  case round =>
    obtain ⟨j, e, hj, rfl, rfl, he, hown, hB⟩ := hrel
    have hel : e ≤ 12582940 := by
      rw [he]; unfold endM
      have h1 := tot_take_le s j
      have h2 : (s.take j).length ≤ s.length := by simp; omega
      omega
    have he1 : 1 ≤ e := by rw [he]; unfold endM; omega
    by_cases hlt : j < s.length
    · obtain ⟨⟨u, d0⟩, f0, ao, cp, d1, ho, R⟩ := markB_begin hlt hown hB
      have hml : s[j].t.length ≤ 8388608 := by have := tot_mem (List.getElem_mem hlt); omega
      have HE : Hid (endM (s.take (j + 1)) k = e + 1 + 3 * s[j].t.length) := by show endM (s.take (j + 1)) k = _; rw [List.take_succ_eq_append_getElem hlt, endM_snoc, he]
      have hel2 : e + 1 + 3 * s[j].t.length ≤ 16777000 := by
        rw [← unhide HE]; unfold endM
        have h1 := tot_take_le s (j + 1)
        have h2 : (s.take (j + 1)).length ≤ s.length := by rw [List.length_take]; omega
        omega
      rw [← he] at d1 ho R
      have HOUT := hide he
      have HR := hide R
      have HO := hide ho
      clear R ho hown he
      obtain ⟨n, hn⟩ : ∃ n, n = s[j].t.length := ⟨_, rfl⟩
      obtain ⟨t, ht⟩ : ∃ t, t = s[j].t := ⟨_, rfl⟩
      rw [← ht] at HO HR HE d1 hml hel2
      clear hn ht
      go_wp2_with fail
      refine (markTrmCellL_any ao cp t (e + 1) lo _ hml (by omega) (by omega) (unhide HO)).mono ?_
      rintro e' w2 ⟨rfl, h1, h2⟩
      obtain ⟨z1, z2⟩ := unhide HR _ h1 h2
      have HZ := hide z1
      clear z1 h1 h2 d0 d1 f0 HR HO
      go_wp2
      go_roundw
      case rel => exact ⟨j + 1, e + 1 + 3 * t.length, by omega, by go_num, by go_num, (unhide HE).symm, unhide HZ, z2⟩
      case measure => simp [intOf]; omega
    · have ej : j = s.length := by omega
      subst ej
      rw [List.take_length] at he
      go_wp2
      go_ret
      refine ⟨ret_int (by rw [he]), ?_, hB⟩
      simpa [midM] using hown


theorem markSubBindL_any (ao : Option Addr) (cap lo hi : Nat) (s : List B) (k : Nat) (w : World) (hm : s.length + tot s ≤ 4194304) (hk1 : 1 ≤ k) (hk : k ≤ 16) (hA : OwnB w lo hi (.slice ao s.length cap) s) :
    Calls Try.prog 68 #[.slice ao s.length cap, .int .i64 k] w fun e w' => e = .returned (.int .i64 ((endM s k : Nat) : Int)) ∧
      OwnB w' lo hi (.slice ao s.length cap) (marksB s k) ∧ Btw lo hi w w' := by
  by_cases h0 : s.length = 0
  · have hz : s = [] := List.length_eq_zero_iff.1 h0
    subst hz
    refine (markSubBindS_none ao cap k w).mono ?_
    rintro e w' ⟨rfl, rfl⟩
    exact ⟨ret_int (by simp [endM, tot]), hA, Btw.refl _ _ _⟩
  · have hA' := hA
    obtain ⟨us, _, h2, _⟩ := hA
    rcases h2.2 with ⟨e, hn⟩ | ⟨g, cap', cur, e, _⟩
    · exact absurd hn h0
    · simp only [Value.slice.injEq] at e
      obtain ⟨rfl, _, rfl⟩ := e
      exact markSubBindL_some g cap lo hi s k w hm hk1 hk hA'


theorem markSubBindL_one (ao : Option Addr) (cap lo hi : Nat) (s : List B) (w : World) (hm : s.length + tot s ≤ 4194304) (hA : OwnB w lo hi (.slice ao s.length cap) s) :
    Calls Try.prog 68 #[.slice ao s.length cap, .int .i64 1] w fun e w' => e = .returned (.int .i64 ((endM s 1 : Nat) : Int)) ∧
      OwnB w' lo hi (.slice ao s.length cap) (marksB s 1) ∧ Btw lo hi w w' := markSubBindL_any ao cap lo hi s 1 w hm (by omega) (by omega) hA


set_option maxRecDepth 100000 in
set_option maxHeartbeats 1000000 in
theorem heldSubBindL_some (b off cap : Nat) (s : List B) (k : Nat) (w : World) (hm : s.length + tot s ≤ 4194304) (hk1 : 1 ≤ k) (hk : k ≤ 16) (hA : AtB w b off (marksB s k)) :
    Calls Try.prog 71 #[.slice (some ⟨b, off, none⟩) s.length cap, .int .i64 k] w fun e w' => e = .returned (.int .i64 ((endM s k : Nat) : Int)) ∧ Below w.heap.size w w' := by
  go_enter Try.func71, Try.ntmps71
  go_wp2
  go_loopw [1, 5] (fun m i wr => ∃ (j e : Nat), j ≤ s.length ∧ i = .int .i64 j ∧ m = .int .i64 (e : Int) ∧ e = endM (s.take j) k ∧ Below w.heap.size w wr) (fun _ i _ => s.length - (intOf i).toNat)
  case atStart => exact ⟨0, k, Nat.zero_le _, rfl, rfl, by simp [endM, tot], Below.refl _ _⟩
  case round =>
    obtain ⟨j, e, hj, rfl, rfl, he, hB⟩ := hrel
    have hel : e ≤ 12582940 := by
      rw [he]; unfold endM
      have h1 := tot_take_le s j
      have h2 : (s.take j).length ≤ s.length := by simp; omega
      omega
    have he1 : 1 ≤ e := by rw [he]; unfold endM; omega
    by_cases hlt : j < s.length
    · obtain ⟨d0, ao, cp, d1, _, _, hR⟩ := (hA.below hB) j (by rw [marksB_length]; exact hlt)
      rw [marksB_get s k j hlt] at d0 d1 hR
      simp only [marksC_length] at d0 d1 hR
      have hml : s[j].t.length ≤ 8388608 := by have := tot_mem (List.getElem_mem hlt); omega
      have HE : Hid (endM (s.take (j + 1)) k = e + 1 + 3 * s[j].t.length) := by show endM (s.take (j + 1)) k = _; rw [List.take_succ_eq_append_getElem hlt, endM_snoc, he]
      have hel2 : e + 1 + 3 * s[j].t.length ≤ 16777000 := by
        rw [← unhide HE]; unfold endM
        have h1 := tot_take_le s (j + 1)
        have h2 : (s.take (j + 1)).length ≤ s.length := by rw [List.length_take]; omega
        omega
      rw [← he] at d0 hR
      have HOUT := hide he
      have HR := hide hR
      clear he hR
      obtain ⟨n, hn⟩ : ∃ n, n = s[j].t.length := ⟨_, rfl⟩
      rw [← hn] at HR HE d1 hml hel2
      clear hn
      have hbl : b < wr.heap.size := World.block_lt_of_cell? wr ⟨b, _, none⟩ d0
      have hne : ((e : Int) != (e : Int)) = false := by simp
      go_wp2_with fail
      refine (heldTrmCellL_any ao cp n (e + 1) _ hml (by omega) (by omega) (unhide HR)).mono ?_
      rintro e' w2 ⟨rfl, hb2⟩
      clear d0 d1 HR
      have hnn : ¬ (((e + 1 + 3 * n : Nat) : Int) < 0) := by omega
      go_wp2
      go_roundw
      case rel => exact ⟨j + 1, e + 1 + 3 * n, by omega, by go_num, by go_num, (unhide HE).symm, bstep hB hb2⟩
      case measure => simp [intOf]; omega
    · have ej : j = s.length := by omega
      subst ej
      rw [List.take_length] at he
      go_wp2
      go_ret
      exact ⟨ret_int (by rw [he]), hB⟩


theorem heldSubBindL_one (ao : Option Addr) (cap : Nat) (s : List B) (w : World) (hm : s.length + tot s ≤ 4194304) (hA : RowB w ao (marksB s 1)) :
    Calls Try.prog 71 #[.slice ao s.length cap, .int .i64 1] w fun e w' => e = .returned (.int .i64 ((endM s 1 : Nat) : Int)) ∧ Below w.heap.size w w' := by
  rcases hA with h | ⟨b, off, rfl, hA⟩
  · have hz : s = [] := by cases s with | nil => rfl | cons x s => simp [marksB] at h
    subst hz
    refine (heldSubBindS_none ao cap 1 w).mono ?_
    rintro e w' ⟨rfl, rfl⟩
    exact ⟨ret_int (by simp [endM, tot]), Below.refl _ _⟩
  · exact heldSubBindL_some b off cap s 1 w hm (by omega) (by omega) hA
end Go.Proofs.Ytkedckmpjedjoaa
