import Derived.Test.YtonpahhcfgdeoaaQYG3Open2YM
import Derived.Test.YtonpahhcfgdeoaaQMemMem2Mem3W9W11
import Derived.Test.YtonpahhcfgdeoaaQYB4
import Derived.Test.YtonpahhcfgdeoaaQG1W16OK1
import Derived.Deep.RegionHeld3
/- MsgSum of the program and of the specification. -/
namespace Go.Proofs.Ytonpahhcfgdeoaa
open Go.RowKit
set_option linter.unusedVariables false
set_option linter.unusedSimpArgs false

/-- A number made of bytes. -/
def sumL (z : List Int) : Int := z.foldl (fun s x => (s * 257 + x) % 65521) 1

theorem sumL_step {z : List Int} {k : Nat} (h : k < z.length) : sumL (z.take (k + 1)) = (sumL (z.take k) * 257 + z[k]) % 65521 := by
  unfold sumL
  rw [List.take_succ_eq_append_getElem h, List.foldl_append]
  rfl
theorem sumL_in_from : ∀ (z : List Int) (s : Int), 0 ≤ s ∧ s ≤ 65520 → 0 ≤ z.foldl (fun s x => (s * 257 + x) % 65521) s ∧ z.foldl (fun s x => (s * 257 + x) % 65521) s ≤ 65520
  | [], s, h => h
  | x :: z, s, h => sumL_in_from z ((s * 257 + x) % 65521) ⟨Int.emod_nonneg _ (by omega), by have := Int.emod_lt_of_pos (s * 257 + x) (show (0 : Int) < 65521 by omega); omega⟩
theorem sumL_in (z : List Int) : 0 ≤ sumL z ∧ sumL z ≤ 65520 := sumL_in_from z 1 (by omega)

theorem tmod_pos {a b : Int} (h : 0 ≤ a) : a.tmod b = a % b := Int.tmod_eq_emod_of_nonneg h

set_option maxHeartbeats 1000000 in
theorem specMsgSum_some (b off cap : Nat) (z : List Int) (w : World) (hm : z.length ≤ maxLen) (hA : AtY w b off z) (hy : ByL z) :
    Calls Try.prog 72 #[.slice (some ⟨b, off, none⟩) z.length cap] w fun e w' => e = .returned (.int .i64 (sumL z)) ∧ w' = w := by
  unfold maxLen at hm
  go_enter Try.func72, Try.ntmps72
  go_wp2
  go_loop [3, 4] (fun m i => ∃ (j : Nat), j ≤ z.length ∧ i = .int .i64 j ∧ m = .int .i64 (sumL (z.take j))) (fun _ i => z.length - (intOf i).toNat)
  case atStart => exact ⟨0, Nat.zero_le _, rfl, rfl⟩
  case round =>
    obtain ⟨j, hj, rfl, rfl⟩ := hrel
    by_cases hlt : j < z.length
    · have d0 := hA j hlt
      have hy0 := hy.get j hlt
      have hs := sumL_in (z.take j)
      have HS := hide (sumL_step hlt)
      obtain ⟨x, hx⟩ : ∃ x, x = z[j] := ⟨_, rfl⟩
      rw [← hx] at d0 hy0 HS
      clear hx
      obtain ⟨s, hs'⟩ : ∃ s, s = sumL (z.take j) := ⟨_, rfl⟩
      rw [← hs'] at hs HS ⊢
      clear hs'
      go_wp2
      go_round
      case rel => exact ⟨j + 1, by omega, by go_num, by rw [unhide HS]⟩
      case measure => simp [intOf]; omega
    · go_wp2
      go_ret
      refine ⟨ret_int ?_, rfl⟩
      rw [List.take_of_length_le (by omega)]

set_option maxHeartbeats 400000 in
theorem specMsgSum_none (ao : Option Addr) (cap : Nat) (w : World) :
    Calls Try.prog 72 #[.slice ao 0 cap] w fun e w' => e = .returned (.int .i64 (sumL [])) ∧ w' = w := by
  go_enter Try.func72, Try.ntmps72
  go_wp2
  refine wp_loop_rounds 1 ?_
  rw [rounds_succ]
  go_wp2
  go_ret
  exact ⟨rfl, rfl⟩

theorem specMsgSum_any (ao : Option Addr) (cap : Nat) (z : List Int) (w : World) (hm : z.length ≤ maxLen) (hA : RowY w ao z) (hy : ByL z) :
    Calls Try.prog 72 #[.slice ao z.length cap] w fun e w' => e = .returned (.int .i64 (sumL z)) ∧ w' = w := by
  rcases hA with rfl | ⟨b, off, rfl, hA⟩
  · exact specMsgSum_none ao cap w
  · exact specMsgSum_some b off cap z w hm hA hy

set_option maxHeartbeats 1000000 in
theorem implMsgSum_some (b off cap : Nat) (z : List Int) (w : World) (hm : z.length ≤ maxLen) (hA : AtY w b off z) (hy : ByL z) :
    Calls Try.prog 74 #[.slice (some ⟨b, off, none⟩) z.length cap] w fun e w' => e = .returned (.int .i64 (sumL z)) ∧ w' = w := by
  unfold maxLen at hm
  go_enter Try.func74, Try.ntmps74
  go_wp2
  go_loop [3, 8] (fun m i => ∃ (j : Nat), j ≤ z.length ∧ i = .int .i64 j ∧ m = .int .i64 (sumL (z.take j))) (fun _ i => z.length - (intOf i).toNat)
  case atStart => exact ⟨0, Nat.zero_le _, rfl, rfl⟩
  case round =>
    obtain ⟨j, hj, rfl, rfl⟩ := hrel
    by_cases hlt : j < z.length
    · have d0 := hA j hlt
      have hy0 := hy.get j hlt
      have hs := sumL_in (z.take j)
      have HS := hide (sumL_step hlt)
      obtain ⟨x, hx⟩ : ∃ x, x = z[j] := ⟨_, rfl⟩
      rw [← hx] at d0 hy0 HS
      clear hx
      obtain ⟨s, hs'⟩ : ∃ s, s = sumL (z.take j) := ⟨_, rfl⟩
      rw [← hs'] at hs HS ⊢
      clear hs'
      go_wp2
      go_round
      case rel => exact ⟨j + 1, by omega, by go_num, by rw [unhide HS]⟩
      case measure => simp [intOf]; omega
    · go_wp2
      go_ret
      refine ⟨ret_int ?_, rfl⟩
      rw [List.take_of_length_le (by omega)]

set_option maxHeartbeats 400000 in
theorem implMsgSum_none (ao : Option Addr) (cap : Nat) (w : World) :
    Calls Try.prog 74 #[.slice ao 0 cap] w fun e w' => e = .returned (.int .i64 (sumL [])) ∧ w' = w := by
  go_enter Try.func74, Try.ntmps74
  go_wp2
  refine wp_loop_rounds 1 ?_
  rw [rounds_succ]
  go_wp2
  go_ret
  exact ⟨rfl, rfl⟩

theorem implMsgSum_any (ao : Option Addr) (cap : Nat) (z : List Int) (w : World) (hm : z.length ≤ maxLen) (hA : RowY w ao z) (hy : ByL z) :
    Calls Try.prog 74 #[.slice ao z.length cap] w fun e w' => e = .returned (.int .i64 (sumL z)) ∧ w' = w := by
  rcases hA with rfl | ⟨b, off, rfl, hA⟩
  · exact implMsgSum_none ao cap w
  · exact implMsgSum_some b off cap z w hm hA hy
end Go.Proofs.Ytonpahhcfgdeoaa

/- Frames: l6Frame of the specification, framed of the program. -/
namespace Go.Proofs.Ytonpahhcfgdeoaa
open Go.RowKit
set_option linter.unusedVariables false
set_option linter.unusedSimpArgs false
attribute [-go_sem] Go.Builtin.append_

/-- Bytes in a frame. -/
def headL (z : List Int) : List Int := highs (z.length : Int) 2 ++ z
def frameL (z : List Int) : List Int := headL z ++ highs (sumL (headL z)) 2
theorem highs2 (n : Int) : highs n 2 = [n / 256 % 256, n % 256] := by simp [highs, List.range_succ, hiB]
theorem headL_by {z : List Int} (h : ByL z) : ByL (headL z) := (highs_by _ _).app h
theorem headL_len (z : List Int) : (headL z).length = z.length + 2 := by simp [headL, highs]; omega
theorem frameL_len (z : List Int) : (frameL z).length = z.length + 4 := by simp [frameL, headL_len, highs]
theorem frameL_by {z : List Int} (h : ByL z) : ByL (frameL z) := (headL_by h).app (highs_by _ _)

set_option maxRecDepth 100000 in
set_option maxHeartbeats 2000000 in
theorem l6Frame_any (b off cap : Nat) (z : List Int) (w : World) (hA : AtY w b off z) (h0 : 0 < z.length) (hz : z.length ≤ 1100) (hy : ByL z) :
    Calls Try.prog 47 #[.slice (some ⟨b, off, none⟩) z.length cap] w fun e w' => ∃ v, e = .returned v ∧ OwnY w' w.heap.size v (frameL z) ∧ Below w.heap.size w w' := by
  have hsum := sumL_in (headL z)
  have hO0 := own_new w w.heap.size (highs (z.length : Int) 2) #[.int .u8 ((z.length : Int) / 256), .int .u8 ((z.length : Int) % 256)] (by rw [highs2, show (z.length : Int) / 256 % 256 = (z.length : Int) / 256 by omega]; rfl) 2 (by simp [highs]) (Nat.le_refl _) (by simp [highs])
  have hb0 : Below w.heap.size w (w.alloc (.cells #[.int .u8 ((z.length : Int) / 256), .int .u8 ((z.length : Int) % 256)] 5)) := cell_below _ _
  obtain ⟨v1, w1, r1, o1, g1⟩ := app_row _ w.heap.size _ _ z b off cap hO0 hb0.size (by simp [highs]; omega) (hA.below hb0) h0
  have B1 : Below w.heap.size w w1 := hb0.trans (g1.below hO0 hb0.size)
  have o1' : OwnY w1 w.heap.size v1 (headL z) := o1
  obtain ⟨g, cp, rfl, hg0, hg1, hgA, _, _⟩ := o1'.some (by rw [headL_len]; omega)
  have HM := hide (specMsgSum_any (some ⟨g, 0, none⟩) cp (headL z) w1 (by rw [headL_len]; unfold maxLen; omega) (RowY.of_at hgA) (headL_by hy))
  obtain ⟨s, hs⟩ : ∃ s, s = sumL (headL z) := ⟨_, rfl⟩
  rw [← hs] at HM hsum
  obtain ⟨v2, w2, r2, o2, g2⟩ := app_new w1 w.heap.size _ (headL z) (highs s 2) #[.int .u8 (s / 256), .int .u8 (s % 256)] (by rw [highs2, show s / 256 % 256 = s / 256 by omega]; rfl) 2 (by simp [highs]) o1' B1.size (by rw [headL_len]; simp [highs]; omega) (by simp [highs])
  have B2 : Below w.heap.size w w2 := B1.trans (g2.below o1' B1.size)
  have HF : Hid (OwnY w2 w.heap.size v2 (frameL z) ∧ Below w.heap.size w w2) := ⟨by unfold frameL; rw [← hs]; exact o2, B2⟩
  have hl2 : (headL z).length = z.length + 2 := headL_len z
  rw [hl2] at HM r1 r2
  clear o1 o1' o2 g1 g2 hgA hO0 hb0 B1 B2 hy hA hs hl2
  go_enter Try.func47, Try.ntmps47
  go_wp2_with fail
  refine (unhide HM).mono ?_
  rintro e w3 ⟨rfl, rfl⟩
  go_wp2
  go_ret
  exact ⟨_, rfl, (unhide HF).1, (unhide HF).2⟩

set_option maxRecDepth 100000 in
set_option maxHeartbeats 2000000 in
theorem framed_any (b off cap : Nat) (z : List Int) (w : World) (hA : AtY w b off z) (h0 : 0 < z.length) (hz : z.length ≤ 1100) (hy : ByL z) :
    Calls Try.prog 48 #[.slice (some ⟨b, off, none⟩) z.length cap] w fun e w' => ∃ v, e = .returned v ∧ OwnY w' w.heap.size v (frameL z) ∧ Below w.heap.size w w' := by
  have HH := hide (appendHigh_any w.heap.size (.slice none 0 0) [] (z.length : Int) 2 w (World.ownsRow_nil _ _ _ _) (Nat.le_refl _) (by simp) (by omega) (by omega) (by omega))
  have HA := hide hA
  clear hA
  have hsum := sumL_in (headL z)
  go_enter Try.func48, Try.ntmps48
  go_wp2_with fail
  refine (unhide HH).mono ?_
  rintro e w1 ⟨v1, rfl, o1, g1⟩
  have B1 : Below w.heap.size w w1 := g1.below (World.ownsRow_nil w w.heap.size 5 1) (Nat.le_refl _)
  obtain ⟨v2, w2, r2, o2, g2⟩ := app_row w1 w.heap.size v1 ([] ++ highs (z.length : Int) 2) z b off cap o1 B1.size (by simp [highs]; omega) ((unhide HA).below B1) h0
  have B2 : Below w.heap.size w w2 := B1.trans (g2.below o1 B1.size)
  have o2' : OwnY w2 w.heap.size v2 (headL z) := by rw [List.nil_append] at o2; exact o2
  obtain ⟨g, cp, rfl, hg0, hg1, hgA, _, _⟩ := o2'.some (by rw [headL_len]; omega)
  have HM := hide (implMsgSum_any (some ⟨g, 0, none⟩) cp (headL z) w2 (by rw [headL_len]; unfold maxLen; omega) (RowY.of_at hgA) (headL_by hy))
  have HH2 := hide (appendHigh_any w.heap.size _ (headL z) (sumL (headL z)) 2 w2 o2' B2.size (by rw [headL_len]; omega) (by omega) (by omega) (by omega))
  obtain ⟨s, hs⟩ : ∃ s, s = sumL (headL z) := ⟨_, rfl⟩
  rw [← hs] at HM HH2 hsum
  have HB := hide (show Below w.heap.size w w2 ∧ OwnY w2 w.heap.size (.slice (some ⟨g, 0, none⟩) (headL z).length cp) (headL z) ∧ w.heap.size ≤ w2.heap.size from ⟨B2, o2', B2.size⟩)
  have hl2 : (headL z).length = z.length + 2 := headL_len z
  have HFR : Hid (frameL z = headL z ++ highs s 2) := by show frameL z = headL z ++ highs s 2; unfold frameL; rw [hs]
  rw [hl2] at HM HH2 r2 HB
  clear o1 o2 o2' g1 g2 hgA B1 B2 hy hs hl2 HH HA
  go_wp2_with fail
  refine (unhide HM).mono ?_
  rintro e w3 ⟨rfl, rfl⟩
  go_wp2_with fail
  refine (unhide HH2).mono ?_
  rintro e w4 ⟨v4, rfl, o4, g4⟩
  obtain ⟨b1, b2, b3⟩ := unhide HB
  have hO2 : OwnY w3 w.heap.size (.slice (some ⟨g, 0, none⟩) (z.length + 2) cp) (headL z) := b2
  have B4 : Below w.heap.size w w4 := b1.trans (g4.below hO2 b3)
  clear b2 b3 hO2 g4
  go_wp2
  go_ret
  exact ⟨_, rfl, by rw [unhide HFR]; exact o4, B4⟩
end Go.Proofs.Ytonpahhcfgdeoaa

/- MsgBytes of the specification and of the program. -/
namespace Go.Proofs.Ytonpahhcfgdeoaa
open Go.RowKit
set_option linter.unusedVariables false
set_option linter.unusedSimpArgs false
attribute [-go_sem] Go.Builtin.append_

/-- What a frame holds. -/
def bodyL (k f n st : Int) (t u : List C) : List Int := [k, f, st] ++ num3 n ++ encT t ++ if st = 2 then encT u else []
/-- A message in bytes; none, if it is none. -/
def msgL (k f n st : Int) (t u : List C) (r : Bool) : List Int := if msgB k f n st t u r then frameL (bodyL k f n st t u) else []

theorem outB_parts {k : Int} {t u : List C} {r : Bool} (h : outB k t u r = true) : (k = 2 ∧ trm u = true) ∨ k = 3 ∨ k = 4 ∨ k = 5 := by
  unfold outB at h
  simp only [Bool.and_eq_true] at h
  obtain ⟨_, h⟩ := h
  split at h
  · rename_i h'; exact .inr h'
  · simp only [Bool.and_eq_true, decide_eq_true_eq] at h
    exact .inl ⟨h.1.1.1, h.1.1.2⟩
theorem msgB_parts {k f n st : Int} {t u : List C} {r : Bool} (h : msgB k f n st t u r = true) : (k = 1 ∨ k = 2) ∧ (0 ≤ f ∧ f ≤ 3) ∧ (0 ≤ st ∧ st ≤ 5) ∧ (1 ≤ n ∧ n ≤ 12000) ∧ trm t = true ∧ (st = 2 → trm u = true) := by
  unfold msgB at h
  simp only [Bool.and_eq_true, decide_eq_true_eq, Bool.or_eq_true] at h
  obtain ⟨⟨⟨hq, h1⟩, h2⟩, h3⟩ := h
  have ht := (isQ_parts hq).1
  rcases h3 with h3 | h3
  · unfold askB at h3
    simp only [Bool.and_eq_true, decide_eq_true_eq] at h3
    obtain ⟨⟨⟨⟨a1, a2⟩, a3⟩, a4⟩, a5⟩ := h3
    exact ⟨.inl a1, ⟨a2, a3⟩, ⟨by omega, by omega⟩, ⟨h1, h2⟩, ht, fun e => by omega⟩
  · unfold tellB at h3
    simp only [Bool.and_eq_true, decide_eq_true_eq] at h3
    obtain ⟨⟨a1, a2⟩, a3⟩ := h3
    have hp := outB_parts a3
    refine ⟨.inr a1, ⟨by omega, by omega⟩, ⟨by omega, by omega⟩, ⟨h1, h2⟩, ht, fun e => ?_⟩
    rcases hp with ⟨_, h⟩ | h | h | h
    · exact h
    · omega
    · omega
    · omega
theorem encT_pos {t : List C} (h : trm t = true) : 0 < (encT t).length := by simp [encT, h]
theorem bodyL_len (k f n st : Int) (t u : List C) : (bodyL k f n st t u).length ≤ 1048 ∧ 0 < (bodyL k f n st t u).length := by
  have h1 := encT_length t
  have h2 := encT_length u
  unfold bodyL
  rw [List.length_append, List.length_append, List.length_append, num3_length]
  split <;> simp <;> omega
theorem bodyL_by {k f n st : Int} {t u : List C} (hk : k = 1 ∨ k = 2) (hf : 0 ≤ f ∧ f ≤ 3) (hs : 0 ≤ st ∧ st ≤ 5) : ByL (bodyL k f n st t u) := by
  unfold bodyL
  refine ByL.app (ByL.app (ByL.app ?_ (highs_by _ _)) (encT_by _)) ?_
  · intro x hx
    simp at hx
    omega
  · split
    · exact encT_by _
    · exact ByL.nil

set_option maxRecDepth 100000 in
set_option maxHeartbeats 4000000 in
theorem specMsgBytes_any (k f n st : Int) (xa ya : Option Addr) (xc yc : Nat) (t u : List C) (r : Bool) (w : World) (hT : OutM w xa xc t) (hU : OutM w ya yc u) (hTd : ∀ W, Below w.heap.size w W → trm u = true → TdT W (.slice ya u.length yc) u) (hr : CanB t u r) :
    Calls Try.prog 20 #[mV k f n st xa ya t.length xc u.length yc] w fun e w' => ∃ v, e = .returned v ∧ OwnY w' w.heap.size v (msgL k f n st t u r) ∧ Below w.heap.size w w' := by
  obtain ⟨W, hW⟩ : ∃ W, W = w.alloc (Obj.cells #[Value.int IntKind.i64 k, Value.int IntKind.i64 f, Value.slice xa t.length xc, Value.int IntKind.i64 n, Value.int IntKind.i64 st, Value.slice ya u.length yc] 41) := ⟨_, rfl⟩
  have hB0 : Below w.heap.size w W := by rw [hW]; exact cell_below _ _
  have hX : W.heap[w.heap.size]? = some (.cells #[Value.int IntKind.i64 k, Value.int IntKind.i64 f, Value.slice xa t.length xc, Value.int IntKind.i64 n, Value.int IntKind.i64 st, Value.slice ya u.length yc] 41 (0, 0)) := by
    rw [hW]
    exact heap_alloc_new w _
  have HMO := hide (specMsgOk_any k f n st xa ya xc yc t u r W (hT.below hB0) (hU.below hB0) (fun W' hW' hu => hTd W' (bstep hB0 hW') hu) hr)
  have HTT := hide (fun (W : World) (hW : Below w.heap.size w W) => specTrmBytes_any xa xc t W (by have := hT.len; unfold maxLen; omega) (hT.row.below hW) hT.fit)
  have HTU := hide (fun (W : World) (hW : Below w.heap.size w W) => specTrmBytes_any ya yc u W (by have := hU.len; unfold maxLen; omega) (hU.row.below hW) hU.fit)
  unfold mV at HMO ⊢
  clear hT hU hTd hr
  go_enter Try.func20, Try.ntmps20
  go_wp2_with fail
  rw [← hW]
  clear hW
  refine (unhide HMO).mono ?_
  rintro e w1 ⟨rfl, hb1⟩
  have hB1 := bstep hB0 hb1
  replace hX := blk_below hX hb1
  clear HMO hB0 hb1
  cases hmb : msgB k f n st t u r with
  | false =>
    have HE : Hid (msgL k f n st t u r = []) := by show msgL k f n st t u r = []; simp [msgL, hmb]
    have hO : OwnY (w1.alloc (.cells #[] 5)) w.heap.size (.slice (some ⟨w1.heap.size, 0, none⟩) 0 0) [] := made_noneY w1 _ hB1.size
    clear hX HTT HTU hmb
    go_wp2
    go_ret
    exact ⟨_, rfl, by rw [unhide HE]; exact hO, bstep hB1 (cell_below _ _)⟩
  | true =>
    obtain ⟨hk, hf, hst, hn, ht, hu⟩ := msgB_parts hmb
    have HE : Hid (msgL k f n st t u r = frameL (bodyL k f n st t u)) := by show msgL k f n st t u r = _; simp [msgL, hmb]
    have HBY := hide (bodyL_by (n := n) (t := t) (u := u) hk hf hst)
    have HBL := hide (bodyL_len k f n st t u)
    have hpt := encT_pos ht
    have HU := hide hu
    clear hmb ht hu
    obtain ⟨x0, x1, x2, x3, x4, x5⟩ := six_cells hX
    have HX := hide hX
    clear hX
    have hk1 : 0 ≤ k := by omega
    have hk2 : k ≤ 255 := by omega
    have hf1 := hf.1
    have hf2 := hf.2
    have hs1 := hst.1
    have hs2 := hst.2
    have hA0 : AtY (w1.alloc (.cells #[.int .u8 k, .int .u8 f, .int .u8 st] 5)) w1.heap.size 0 [k, f, st] := atY_new w1 [k, f, st]
    have hC0 : Below w1.heap.size w1 (w1.alloc (.cells #[.int .u8 k, .int .u8 f, .int .u8 st] 5)) := cell_below _ _
    have HP := hide (l6Put_any w1.heap.size 0 3 [k, f, st] n (w1.alloc (.cells #[.int .u8 k, .int .u8 f, .int .u8 st] 5)) hA0 (by simp) (by simp) (by omega) (by omega))
    obtain ⟨_, _, _, xx3, _, _⟩ := six_cells (blk_below (unhide HX) hC0)
    clear hk hf hst hA0
    go_wp2_with fail
    refine (unhide HP).mono ?_
    rintro e w2 ⟨v2, rfl, o2, hb2⟩
    have hC2 := bstep hC0 hb2
    have o3 : OwnY w2 w1.heap.size v2 ([k, f, st] ++ num3 n) := own_lo o2 (fun j e => Nat.le_trans hC0.size (World.ownsRow.lt o2 j e).1)
    obtain ⟨y0, y1, y2, y3, y4, y5⟩ := six_cells (blk_below (unhide HX) hC2)
    clear HP o2 hC0 hb2 x0 x1 x2 x3 x4 x5 xx3
    go_wp2_with fail
    refine (unhide HTT w2 (bstep hB1 hC2)).mono ?_
    rintro e w3 ⟨v3, rfl, o4, hb3⟩
    have hC3 := bstep hC2 hb3
    have o5 := o3.below hb3
    have hl4 := encT_length t
    obtain ⟨g3, c3, rfl, _, _, hA3, _, _⟩ := o4.some hpt
    obtain ⟨v4, w4, r4, o6, g4⟩ := app_row w3 w1.heap.size v2 _ (encT t) g3 0 c3 o5 hC3.size (by rw [List.length_append, num3_length]; simp; omega) hA3 hpt
    have hC4 : Below w1.heap.size w1 w4 := hC3.trans (g4.below o5 hC3.size)
    obtain ⟨z0, z1, z2, z3, z4, z5⟩ := six_cells (blk_below (unhide HX) hC4)
    have hn4 : [k, f, st].length + 3 = 6 := rfl
    clear HTT hC2 hC3 o3 o4 o5 hb3 hA3 g4 y0 y1 y2 y3 y4 y5
    by_cases h2 : st = 2
    · have hb : (st == 2) = true := by simpa using h2
      have hpu := encT_pos ((unhide HU) h2)
      have HH2 := hide h2
      clear h2 HU
      go_wp2_with fail
      refine (unhide HTU w4 (bstep hB1 hC4)).mono ?_
      rintro e w5 ⟨v5, rfl, o7, hb5⟩
      have hC5 := bstep hC4 hb5
      have o8 := o6.below hb5
      have hl5 := encT_length u
      obtain ⟨g5, c5, rfl, _, _, hA5, _, _⟩ := o7.some hpu
      obtain ⟨v6, w6, r6, o9, g6⟩ := app_row w5 w1.heap.size v4 _ (encT u) g5 0 c5 o8 hC5.size (by rw [List.length_append, List.length_append, num3_length]; simp; omega) hA5 hpu
      have hC6 : Below w1.heap.size w1 w6 := hC5.trans (g6.below o8 hC5.size)
      have o10 : OwnY w6 w1.heap.size v6 (bodyL k f n st t u) := by
        have e : bodyL k f n st t u = [k, f, st] ++ num3 n ++ encT t ++ encT u := by simp [bodyL, unhide HH2]
        rw [e]
        exact o9
      obtain ⟨g7, c7, rfl, _, _, hA7, _, _⟩ := o10.some (unhide HBL).2
      have HFR := hide (l6Frame_any g7 0 c7 _ w6 hA7 (unhide HBL).2 (Nat.le_trans (unhide HBL).1 (by omega)) (unhide HBY))
      clear HTU hC4 hC5 hb5 o6 o7 o8 o9 o10 hA5 hA7 g6 z0 z1 z2 z3 z4 z5
      go_wp2_with fail
      refine (unhide HFR).mono ?_
      rintro e w7 ⟨v7, rfl, o11, hb7⟩
      have hB7 := bstep hB1 (bstep hC6 hb7)
      have o12 : OwnY w7 w.heap.size v7 (frameL (bodyL k f n st t u)) := own_lo o11 (fun j e => Nat.le_trans (Nat.le_trans hB1.size hC6.size) (World.ownsRow.lt o11 j e).1)
      go_wp2
      go_ret
      exact ⟨_, rfl, by rw [unhide HE]; exact o12, hB7⟩
    · have hb : (st == 2) = false := by simpa using h2
      have o10 : OwnY w4 w1.heap.size v4 (bodyL k f n st t u) := by
        have e : bodyL k f n st t u = [k, f, st] ++ num3 n ++ encT t := by simp [bodyL, h2]
        rw [e]
        exact o6
      obtain ⟨g7, c7, rfl, _, _, hA7, _, _⟩ := o10.some (unhide HBL).2
      have HFR := hide (l6Frame_any g7 0 c7 _ w4 hA7 (unhide HBL).2 (Nat.le_trans (unhide HBL).1 (by omega)) (unhide HBY))
      clear HTU h2 HU o6 o10 hA7
      go_wp2_with fail
      refine (unhide HFR).mono ?_
      rintro e w7 ⟨v7, rfl, o11, hb7⟩
      have hB7 := bstep hB1 (bstep hC4 hb7)
      have o12 : OwnY w7 w.heap.size v7 (frameL (bodyL k f n st t u)) := own_lo o11 (fun j e => Nat.le_trans (Nat.le_trans hB1.size hC4.size) (World.ownsRow.lt o11 j e).1)
      go_wp2
      go_ret
      exact ⟨_, rfl, by rw [unhide HE]; exact o12, hB7⟩
end Go.Proofs.Ytonpahhcfgdeoaa
