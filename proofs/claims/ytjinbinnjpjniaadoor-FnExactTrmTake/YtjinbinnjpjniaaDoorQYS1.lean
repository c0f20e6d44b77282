/- MsgSum of the program and of the specification. -/
import Derived.Test.YtjinbinnjpjniaaDoorQYM
import Derived.Test.YtjinbinnjpjniaaDoorQW9
namespace Go.Proofs.YtjinbinnjpjniaaDoor
open Go.RowKit
set_option linter.unusedVariables false
set_option linter.unusedSimpArgs false

/-- A number made of bytes. -/
def sumL (z : List Int) : Int := z.foldl (fun s x => (s * 257 + x) % 65521) 1

theorem sumL_step {z : List Int} {k : Nat} (h : k < z.length) : sumL (z.take (k + 1)) = (sumL (z.take k) * 257 + z[k]) % 65521 := by
  unfold sumL
  rw [List.take_succ_eq_append_getElem h, List.foldl_append]
  rfl
theorem sumL_in_from : ∀ (z : List Int) (s : Int), 0 ≤ s ∧ s ≤ 65520 → 0 ≤ z.foldl (fun s x => (s * 257 + x) % 65521) s ∧ z.foldl (fun s x => (s * 257 + x) % 65521) s ≤ 65520
  | [], s, h => h
  | x :: z, s, h => sumL_in_from z ((s * 257 + x) % 65521) ⟨Int.emod_nonneg _ (by omega), by have := Int.emod_lt_of_pos (s * 257 + x) (show (0 : Int) < 65521 by omega); omega⟩
theorem sumL_in (z : List Int) : 0 ≤ sumL z ∧ sumL z ≤ 65520 := sumL_in_from z 1 (by omega)

theorem tmod_pos {a b : Int} (h : 0 ≤ a) : a.tmod b = a % b := Int.tmod_eq_emod_of_nonneg h

set_option maxHeartbeats 1000000 in
theorem specMsgSum_some (b off cap : Nat) (z : List Int) (w : World) (hm : z.length ≤ maxLen) (hA : AtY w b off z) (hy : ByL z) :
    Calls Tryd.prog 66 #[.slice (some ⟨b, off, none⟩) z.length cap] w fun e w' => e = .returned (.int .i64 (sumL z)) ∧ w' = w := by
  unfold maxLen at hm
  go_enter Tryd.func66, Tryd.ntmps66
  go_wp2
  go_loop [3, 4] (fun m i => ∃ (j : Nat), j ≤ z.length ∧ i = .int .i64 j ∧ m = .int .i64 (sumL (z.take j))) (fun _ i => z.length - (intOf i).toNat)
  case atStart => exact ⟨0, Nat.zero_le _, rfl, rfl⟩
  case round =>
    obtain ⟨j, hj, rfl, rfl⟩ := hrel
    by_cases hlt : j < z.length
    · have d0 := hA j hlt
      have hy0 := hy.get j hlt
      have hs := sumL_in (z.take j)
      have HS := hide (sumL_step hlt)
      obtain ⟨x, hx⟩ : ∃ x, x = z[j] := ⟨_, rfl⟩
      rw [← hx] at d0 hy0 HS
      clear hx
      obtain ⟨s, hs'⟩ : ∃ s, s = sumL (z.take j) := ⟨_, rfl⟩
      rw [← hs'] at hs HS ⊢
      clear hs'
      go_wp2
      go_round
      case rel => exact ⟨j + 1, by omega, by go_num, by rw [unhide HS]⟩
      case measure => simp [intOf]; omega
    · go_wp2
      go_ret
      refine ⟨ret_int ?_, rfl⟩
      rw [List.take_of_length_le (by omega)]

set_option maxHeartbeats 400000 in
theorem specMsgSum_none (ao : Option Addr) (cap : Nat) (w : World) :
    Calls Tryd.prog 66 #[.slice ao 0 cap] w fun e w' => e = .returned (.int .i64 (sumL [])) ∧ w' = w := by
  go_enter Tryd.func66, Tryd.ntmps66
  go_wp2
  refine wp_loop_rounds 1 ?_
  rw [rounds_succ]
  go_wp2
  go_ret
  exact ⟨rfl, rfl⟩

theorem specMsgSum_any (ao : Option Addr) (cap : Nat) (z : List Int) (w : World) (hm : z.length ≤ maxLen) (hA : RowY w ao z) (hy : ByL z) :
    Calls Tryd.prog 66 #[.slice ao z.length cap] w fun e w' => e = .returned (.int .i64 (sumL z)) ∧ w' = w := by
  rcases hA with rfl | ⟨b, off, rfl, hA⟩
  · exact specMsgSum_none ao cap w
  · exact specMsgSum_some b off cap z w hm hA hy

set_option maxHeartbeats 1000000 in
theorem implMsgSum_some (b off cap : Nat) (z : List Int) (w : World) (hm : z.length ≤ maxLen) (hA : AtY w b off z) (hy : ByL z) :
    Calls Tryd.prog 71 #[.slice (some ⟨b, off, none⟩) z.length cap] w fun e w' => e = .returned (.int .i64 (sumL z)) ∧ w' = w := by
  unfold maxLen at hm
  go_enter Tryd.func71, Tryd.ntmps71
  go_wp2
  go_loop [3, 8] (fun m i => ∃ (j : Nat), j ≤ z.length ∧ i = .int .i64 j ∧ m = .int .i64 (sumL (z.take j))) (fun _ i => z.length - (intOf i).toNat)
  case atStart => exact ⟨0, Nat.zero_le _, rfl, rfl⟩
  case round =>
    obtain ⟨j, hj, rfl, rfl⟩ := hrel
    by_cases hlt : j < z.length
    · have d0 := hA j hlt
      have hy0 := hy.get j hlt
      have hs := sumL_in (z.take j)
      have HS := hide (sumL_step hlt)
      obtain ⟨x, hx⟩ : ∃ x, x = z[j] := ⟨_, rfl⟩
      rw [← hx] at d0 hy0 HS
      clear hx
      obtain ⟨s, hs'⟩ : ∃ s, s = sumL (z.take j) := ⟨_, rfl⟩
      rw [← hs'] at hs HS ⊢
      clear hs'
      go_wp2
      go_round
      case rel => exact ⟨j + 1, by omega, by go_num, by rw [unhide HS]⟩
      case measure => simp [intOf]; omega
    · go_wp2
      go_ret
      refine ⟨ret_int ?_, rfl⟩
      rw [List.take_of_length_le (by omega)]

set_option maxHeartbeats 400000 in
theorem implMsgSum_none (ao : Option Addr) (cap : Nat) (w : World) :
    Calls Tryd.prog 71 #[.slice ao 0 cap] w fun e w' => e = .returned (.int .i64 (sumL [])) ∧ w' = w := by
  go_enter Tryd.func71, Tryd.ntmps71
  go_wp2
  refine wp_loop_rounds 1 ?_
  rw [rounds_succ]
  go_wp2
  go_ret
  exact ⟨rfl, rfl⟩

theorem implMsgSum_any (ao : Option Addr) (cap : Nat) (z : List Int) (w : World) (hm : z.length ≤ maxLen) (hA : RowY w ao z) (hy : ByL z) :
    Calls Tryd.prog 71 #[.slice ao z.length cap] w fun e w' => e = .returned (.int .i64 (sumL z)) ∧ w' = w := by
  rcases hA with rfl | ⟨b, off, rfl, hA⟩
  · exact implMsgSum_none ao cap w
  · exact implMsgSum_some b off cap z w hm hA hy
end Go.Proofs.YtjinbinnjpjniaaDoor
