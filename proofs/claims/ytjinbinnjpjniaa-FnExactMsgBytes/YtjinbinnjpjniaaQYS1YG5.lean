import Derived.Test.YtjinbinnjpjniaaQYG3Open2YM
import Derived.Test.YtjinbinnjpjniaaQMem2Mem3W9W11
import Derived.Test.YtjinbinnjpjniaaQYB4
/- MsgSum of the program and of the specification. -/
namespace Go.Proofs.Ytjinbinnjpjniaa
open Go.RowKit
set_option linter.unusedVariables false
set_option linter.unusedSimpArgs false

/-- A number made of bytes. -/
def sumL (z : List Int) : Int := z.foldl (fun s x => (s * 257 + x) % 65521) 1

theorem sumL_step {z : List Int} {k : Nat} (h : k < z.length) : sumL (z.take (k + 1)) = (sumL (z.take k) * 257 + z[k]) % 65521 := by
  unfold sumL
  rw [List.take_succ_eq_append_getElem h, List.foldl_append]
  rfl
theorem sumL_in_from : ∀ (z : List Int) (s : Int), 0 ≤ s ∧ s ≤ 65520 → 0 ≤ z.foldl (fun s x => (s * 257 + x) % 65521) s ∧ z.foldl (fun s x => (s * 257 + x) % 65521) s ≤ 65520
  | [], s, h => h
  | x :: z, s, h => sumL_in_from z ((s * 257 + x) % 65521) ⟨Int.emod_nonneg _ (by omega), by have := Int.emod_lt_of_pos (s * 257 + x) (show (0 : Int) < 65521 by omega); omega⟩
theorem sumL_in (z : List Int) : 0 ≤ sumL z ∧ sumL z ≤ 65520 := sumL_in_from z 1 (by omega)

theorem tmod_pos {a b : Int} (h : 0 ≤ a) : a.tmod b = a % b := Int.tmod_eq_emod_of_nonneg h

set_option maxHeartbeats 1000000 in
theorem specMsgSum_some (b off cap : Nat) (z : List Int) (w : World) (hm : z.length ≤ maxLen) (hA : AtY w b off z) (hy : ByL z) :
    Calls Try.prog 10 #[.slice (some ⟨b, off, none⟩) z.length cap] w fun e w' => e = .returned (.int .i64 (sumL z)) ∧ w' = w := by
  unfold maxLen at hm
  go_enter Try.func10, Try.ntmps10
  go_wp2
  go_loop [3, 4] (fun m i => ∃ (j : Nat), j ≤ z.length ∧ i = .int .i64 j ∧ m = .int .i64 (sumL (z.take j))) (fun _ i => z.length - (intOf i).toNat)
  case atStart => exact ⟨0, Nat.zero_le _, rfl, rfl⟩
  case round =>
    obtain ⟨j, hj, rfl, rfl⟩ := hrel
    by_cases hlt : j < z.length
    · have d0 := hA j hlt
      have hy0 := hy.get j hlt
      have hs := sumL_in (z.take j)
      have HS := hide (sumL_step hlt)
      obtain ⟨x, hx⟩ : ∃ x, x = z[j] := ⟨_, rfl⟩
      rw [← hx] at d0 hy0 HS
      clear hx
      obtain ⟨s, hs'⟩ : ∃ s, s = sumL (z.take j) := ⟨_, rfl⟩
      rw [← hs'] at hs HS ⊢
      clear hs'
      go_wp2
      go_round
      case rel => exact ⟨j + 1, by omega, by go_num, by rw [unhide HS]⟩
      case measure => simp [intOf]; omega
    · go_wp2
      go_ret
      refine ⟨ret_int ?_, rfl⟩
      rw [List.take_of_length_le (by omega)]

set_option maxHeartbeats 400000 in
theorem specMsgSum_none (ao : Option Addr) (cap : Nat) (w : World) :
    Calls Try.prog 10 #[.slice ao 0 cap] w fun e w' => e = .returned (.int .i64 (sumL [])) ∧ w' = w := by
  go_enter Try.func10, Try.ntmps10
  go_wp2
  refine wp_loop_rounds 1 ?_
  rw [rounds_succ]
  go_wp2
  go_ret
  exact ⟨rfl, rfl⟩

theorem specMsgSum_any (ao : Option Addr) (cap : Nat) (z : List Int) (w : World) (hm : z.length ≤ maxLen) (hA : RowY w ao z) (hy : ByL z) :
    Calls Try.prog 10 #[.slice ao z.length cap] w fun e w' => e = .returned (.int .i64 (sumL z)) ∧ w' = w := by
  rcases hA with rfl | ⟨b, off, rfl, hA⟩
  · exact specMsgSum_none ao cap w
  · exact specMsgSum_some b off cap z w hm hA hy

set_option maxHeartbeats 1000000 in
theorem implMsgSum_some (b off cap : Nat) (z : List Int) (w : World) (hm : z.length ≤ maxLen) (hA : AtY w b off z) (hy : ByL z) :
    Calls Try.prog 9 #[.slice (some ⟨b, off, none⟩) z.length cap] w fun e w' => e = .returned (.int .i64 (sumL z)) ∧ w' = w := by
  unfold maxLen at hm
  go_enter Try.func9, Try.ntmps9
  go_wp2
  go_loop [3, 8] (fun m i => ∃ (j : Nat), j ≤ z.length ∧ i = .int .i64 j ∧ m = .int .i64 (sumL (z.take j))) (fun _ i => z.length - (intOf i).toNat)
  case atStart => exact ⟨0, Nat.zero_le _, rfl, rfl⟩
  case round =>
    obtain ⟨j, hj, rfl, rfl⟩ := hrel
    by_cases hlt : j < z.length
    · have d0 := hA j hlt
      have hy0 := hy.get j hlt
      have hs := sumL_in (z.take j)
      have HS := hide (sumL_step hlt)
      obtain ⟨x, hx⟩ : ∃ x, x = z[j] := ⟨_, rfl⟩
      rw [← hx] at d0 hy0 HS
      clear hx
      obtain ⟨s, hs'⟩ : ∃ s, s = sumL (z.take j) := ⟨_, rfl⟩
      rw [← hs'] at hs HS ⊢
      clear hs'
      go_wp2
      go_round
      case rel => exact ⟨j + 1, by omega, by go_num, by rw [unhide HS]⟩
      case measure => simp [intOf]; omega
    · go_wp2
      go_ret
      refine ⟨ret_int ?_, rfl⟩
      rw [List.take_of_length_le (by omega)]

set_option maxHeartbeats 400000 in
theorem implMsgSum_none (ao : Option Addr) (cap : Nat) (w : World) :
    Calls Try.prog 9 #[.slice ao 0 cap] w fun e w' => e = .returned (.int .i64 (sumL [])) ∧ w' = w := by
  go_enter Try.func9, Try.ntmps9
  go_wp2
  refine wp_loop_rounds 1 ?_
  rw [rounds_succ]
  go_wp2
  go_ret
  exact ⟨rfl, rfl⟩

theorem implMsgSum_any (ao : Option Addr) (cap : Nat) (z : List Int) (w : World) (hm : z.length ≤ maxLen) (hA : RowY w ao z) (hy : ByL z) :
    Calls Try.prog 9 #[.slice ao z.length cap] w fun e w' => e = .returned (.int .i64 (sumL z)) ∧ w' = w := by
  rcases hA with rfl | ⟨b, off, rfl, hA⟩
  · exact implMsgSum_none ao cap w
  · exact implMsgSum_some b off cap z w hm hA hy
end Go.Proofs.Ytjinbinnjpjniaa

/- Frames: l6Frame of the specification, framed of the program. -/
namespace Go.Proofs.Ytjinbinnjpjniaa
open Go.RowKit
set_option linter.unusedVariables false
set_option linter.unusedSimpArgs false
attribute [-go_sem] Go.Builtin.append_

/-- Bytes in a frame. -/
def headL (z : List Int) : List Int := highs (z.length : Int) 2 ++ z
def frameL (z : List Int) : List Int := headL z ++ highs (sumL (headL z)) 2
theorem highs2 (n : Int) : highs n 2 = [n / 256 % 256, n % 256] := by simp [highs, List.range_succ, hiB]
theorem headL_by {z : List Int} (h : ByL z) : ByL (headL z) := (highs_by _ _).app h
theorem headL_len (z : List Int) : (headL z).length = z.length + 2 := by simp [headL, highs]; omega
theorem frameL_len (z : List Int) : (frameL z).length = z.length + 4 := by simp [frameL, headL_len, highs]
theorem frameL_by {z : List Int} (h : ByL z) : ByL (frameL z) := (headL_by h).app (highs_by _ _)

set_option maxRecDepth 100000 in
set_option maxHeartbeats 2000000 in
theorem l6Frame_any (b off cap : Nat) (z : List Int) (w : World) (hA : AtY w b off z) (h0 : 0 < z.length) (hz : z.length ≤ 1100) (hy : ByL z) :
    Calls Try.prog 47 #[.slice (some ⟨b, off, none⟩) z.length cap] w fun e w' => ∃ v, e = .returned v ∧ OwnY w' w.heap.size v (frameL z) ∧ Below w.heap.size w w' := by
  have hsum := sumL_in (headL z)
  have hO0 := own_new w w.heap.size (highs (z.length : Int) 2) #[.int .u8 ((z.length : Int) / 256), .int .u8 ((z.length : Int) % 256)] (by rw [highs2, show (z.length : Int) / 256 % 256 = (z.length : Int) / 256 by omega]; rfl) 2 (by simp [highs]) (Nat.le_refl _) (by simp [highs])
  have hb0 : Below w.heap.size w (w.alloc (.cells #[.int .u8 ((z.length : Int) / 256), .int .u8 ((z.length : Int) % 256)] 5)) := cell_below _ _
  obtain ⟨v1, w1, r1, o1, g1⟩ := app_row _ w.heap.size _ _ z b off cap hO0 hb0.size (by simp [highs]; omega) (hA.below hb0) h0
  have B1 : Below w.heap.size w w1 := hb0.trans (g1.below hO0 hb0.size)
  have o1' : OwnY w1 w.heap.size v1 (headL z) := o1
  obtain ⟨g, cp, rfl, hg0, hg1, hgA, _, _⟩ := o1'.some (by rw [headL_len]; omega)
  have HM := hide (specMsgSum_any (some ⟨g, 0, none⟩) cp (headL z) w1 (by rw [headL_len]; unfold maxLen; omega) (RowY.of_at hgA) (headL_by hy))
  obtain ⟨s, hs⟩ : ∃ s, s = sumL (headL z) := ⟨_, rfl⟩
  rw [← hs] at HM hsum
  obtain ⟨v2, w2, r2, o2, g2⟩ := app_new w1 w.heap.size _ (headL z) (highs s 2) #[.int .u8 (s / 256), .int .u8 (s % 256)] (by rw [highs2, show s / 256 % 256 = s / 256 by omega]; rfl) 2 (by simp [highs]) o1' B1.size (by rw [headL_len]; simp [highs]; omega) (by simp [highs])
  have B2 : Below w.heap.size w w2 := B1.trans (g2.below o1' B1.size)
  have HF : Hid (OwnY w2 w.heap.size v2 (frameL z) ∧ Below w.heap.size w w2) := ⟨by unfold frameL; rw [← hs]; exact o2, B2⟩
  have hl2 : (headL z).length = z.length + 2 := headL_len z
  rw [hl2] at HM r1 r2
  clear o1 o1' o2 g1 g2 hgA hO0 hb0 B1 B2 hy hA hs hl2
  go_enter Try.func47, Try.ntmps47
  go_wp2_with fail
  refine (unhide HM).mono ?_
  rintro e w3 ⟨rfl, rfl⟩
  go_wp2
  go_ret
  exact ⟨_, rfl, (unhide HF).1, (unhide HF).2⟩

set_option maxRecDepth 100000 in
set_option maxHeartbeats 2000000 in
theorem framed_any (b off cap : Nat) (z : List Int) (w : World) (hA : AtY w b off z) (h0 : 0 < z.length) (hz : z.length ≤ 1100) (hy : ByL z) :
    Calls Try.prog 48 #[.slice (some ⟨b, off, none⟩) z.length cap] w fun e w' => ∃ v, e = .returned v ∧ OwnY w' w.heap.size v (frameL z) ∧ Below w.heap.size w w' := by
  have HH := hide (appendHigh_any w.heap.size (.slice none 0 0) [] (z.length : Int) 2 w (World.ownsRow_nil _ _ _ _) (Nat.le_refl _) (by simp) (by omega) (by omega) (by omega))
  have HA := hide hA
  clear hA
  have hsum := sumL_in (headL z)
  go_enter Try.func48, Try.ntmps48
  go_wp2_with fail
  refine (unhide HH).mono ?_
  rintro e w1 ⟨v1, rfl, o1, g1⟩
  have B1 : Below w.heap.size w w1 := g1.below (World.ownsRow_nil w w.heap.size 5 1) (Nat.le_refl _)
  obtain ⟨v2, w2, r2, o2, g2⟩ := app_row w1 w.heap.size v1 ([] ++ highs (z.length : Int) 2) z b off cap o1 B1.size (by simp [highs]; omega) ((unhide HA).below B1) h0
  have B2 : Below w.heap.size w w2 := B1.trans (g2.below o1 B1.size)
  have o2' : OwnY w2 w.heap.size v2 (headL z) := by rw [List.nil_append] at o2; exact o2
  obtain ⟨g, cp, rfl, hg0, hg1, hgA, _, _⟩ := o2'.some (by rw [headL_len]; omega)
  have HM := hide (implMsgSum_any (some ⟨g, 0, none⟩) cp (headL z) w2 (by rw [headL_len]; unfold maxLen; omega) (RowY.of_at hgA) (headL_by hy))
  have HH2 := hide (appendHigh_any w.heap.size _ (headL z) (sumL (headL z)) 2 w2 o2' B2.size (by rw [headL_len]; omega) (by omega) (by omega) (by omega))
  obtain ⟨s, hs⟩ : ∃ s, s = sumL (headL z) := ⟨_, rfl⟩
  rw [← hs] at HM HH2 hsum
  have HB := hide (show Below w.heap.size w w2 ∧ OwnY w2 w.heap.size (.slice (some ⟨g, 0, none⟩) (headL z).length cp) (headL z) ∧ w.heap.size ≤ w2.heap.size from ⟨B2, o2', B2.size⟩)
  have hl2 : (headL z).length = z.length + 2 := headL_len z
  have HFR : Hid (frameL z = headL z ++ highs s 2) := by show frameL z = headL z ++ highs s 2; unfold frameL; rw [hs]
  rw [hl2] at HM HH2 r2 HB
  clear o1 o2 o2' g1 g2 hgA B1 B2 hy hs hl2 HH HA
  go_wp2_with fail
  refine (unhide HM).mono ?_
  rintro e w3 ⟨rfl, rfl⟩
  go_wp2_with fail
  refine (unhide HH2).mono ?_
  rintro e w4 ⟨v4, rfl, o4, g4⟩
  obtain ⟨b1, b2, b3⟩ := unhide HB
  have hO2 : OwnY w3 w.heap.size (.slice (some ⟨g, 0, none⟩) (z.length + 2) cp) (headL z) := b2
  have B4 : Below w.heap.size w w4 := b1.trans (g4.below hO2 b3)
  clear b2 b3 hO2 g4
  go_wp2
  go_ret
  exact ⟨_, rfl, by rw [unhide HFR]; exact o4, B4⟩
end Go.Proofs.Ytjinbinnjpjniaa
