/- The walks of eqIntS, caInts, markIntS, heldIntS. -/
import Derived.Test.YtcbgpoofepchmaaW1
import Derived.Test.YtcbgpoofepchmaaMem3
import Derived.Deep.QuietTactic
import Derived.BigQuiet
import Derived.WalkSmall
namespace Go.Proofs.Ytcbgpoofepchmaa
open Go.RowKit
set_option linter.unusedVariables false
set_option linter.unusedSimpArgs false

theorem decide_eq_no {z y : List Int} (h : z ≠ y) : decide (z = y) = false := by simpa using h
theorem decide_eq_yes {z y : List Int} (h : z = y) : decide (z = y) = true := by simpa using h

set_option maxHeartbeats 1000000 in
theorem eqIntS_some (b off cap b' off' cap' : Nat) (z y : List Int) (w : World) (hm : z.length ≤ maxLen) (hA : AtI w b off z) (hU : AtI w b' off' y) (hl : z.length = y.length) :
    Calls Try.prog 48 #[.slice (some ⟨b, off, none⟩) z.length cap, .slice (some ⟨b', off', none⟩) y.length cap'] w fun e w' => e = .returned (.bool (decide (z = y))) ∧ Below w.heap.size w w' := by
  unfold maxLen at hm
  have hne : ((z.length : Int) != (y.length : Int)) = false := by simp; omega
  have hul : y.length ≤ 2 ^ 63 - 1 := by omega
  have HL := hide hl
  clear hl
  go_enter Try.func48, Try.ntmps48
  go_wp2
  go_loopw [5] (fun i wr => ∃ (k : Nat), k ≤ z.length ∧ i = .int .i64 k ∧ z.take k = y.take k ∧ Below w.heap.size w wr) (fun i _ => z.length - (intOf i).toNat)
  case atStart => exact ⟨0, Nat.zero_le _, rfl, rfl, Below.refl _ _⟩
  case round =>
    obtain ⟨k, hk, rfl, hx, hB⟩ := hrel
    have HX := hide hx
    clear hx
    by_cases hlt : k < z.length
    · have hlu : k < y.length := by rw [← unhide HL]; exact hlt
      have c0 := (hA.below hB) k hlt
      have d0 := (hU.below hB) k hlu
      obtain ⟨c, hc⟩ : ∃ c, c = z[k] := ⟨_, rfl⟩
      rw [← hc] at c0
      have HC := hide hc
      clear hc
      obtain ⟨d, hd⟩ : ∃ d, d = y[k] := ⟨_, rfl⟩
      rw [← hd] at d0
      have HD := hide hd
      clear hd
      by_cases hsm : c = d
      · have hb : (c != d) = false := by simpa using hsm
        have HS := hide hsm
        clear hsm
        go_wp2
        go_quiet (fail)
        go_wp2
        go_roundw
        case rel => exact ⟨k + 1, by omega, by go_num, by rw [List.take_succ_eq_append_getElem hlt, List.take_succ_eq_append_getElem hlu, unhide HX, ← unhide HC, ← unhide HD, unhide HS], below_drewN hB _⟩
        case measure => simp [intOf]; omega
      · have hb : (c != d) = true := by simpa using hsm
        have HS := hide hsm
        clear hsm
        go_wp2
        go_quiet (fail)
        go_wp2
        go_ret
        refine ⟨ret_bool (decide_eq_no (fun h => ?_)).symm, below_drewN hB _⟩
        have e : c = d := by rw [unhide HC, unhide HD]; simp [h]
        exact (unhide HS) e
    · go_wp2
      go_ret
      refine ⟨ret_bool (decide_eq_yes ?_).symm, hB⟩
      have := unhide HX
      rw [List.take_of_length_le (by omega), List.take_of_length_le (by rw [← unhide HL]; omega)] at this
      exact this

set_option maxHeartbeats 400000 in
theorem eqIntS_far (ao bo : Option Addr) (n m cap cap' : Nat) (w : World) (hl : n ≠ m) :
    Calls Try.prog 48 #[.slice ao n cap, .slice bo m cap'] w fun e w' => e = .returned (.bool false) ∧ Below w.heap.size w w' := by
  have hne : ((n : Int) != (m : Int)) = true := by rw [bne_iff_ne]; omega
  go_enter Try.func48, Try.ntmps48
  go_wp2
  go_ret
  exact ⟨rfl, Below.refl _ _⟩

set_option maxHeartbeats 400000 in
theorem eqIntS_none (ao bo : Option Addr) (cap cap' : Nat) (w : World) :
    Calls Try.prog 48 #[.slice ao 0 cap, .slice bo 0 cap'] w fun e w' => e = .returned (.bool true) ∧ Below w.heap.size w w' := by
  go_enter Try.func48, Try.ntmps48
  go_wp2
  refine wp_loop_rounds 1 ?_
  rw [rounds_succ]
  go_wp2
  go_ret
  exact ⟨rfl, Below.refl _ _⟩

theorem eqIntS_any (ao bo : Option Addr) (cap cap' : Nat) (z y : List Int) (w : World) (hm : z.length ≤ maxLen) (hA : RowI w ao z) (hU : RowI w bo y) :
    Calls Try.prog 48 #[.slice ao z.length cap, .slice bo y.length cap'] w fun e w' => e = .returned (.bool (decide (z = y))) ∧ Below w.heap.size w w' := by
  by_cases hl : z.length = y.length
  · rcases hA with rfl | ⟨b, off, rfl, hA⟩
    · have hu : y = [] := List.length_eq_zero_iff.1 hl.symm
      subst hu
      exact eqIntS_none ao bo cap cap' w
    · rcases hU with rfl | ⟨b', off', rfl, hU⟩
      · have ht : z = [] := List.length_eq_zero_iff.1 hl
        subst ht
        exact eqIntS_none _ bo cap cap' w
      · exact eqIntS_some b off cap b' off' cap' z y w hm hA hU hl
  · rw [decide_eq_no (fun h => hl (by rw [h]))]
    exact eqIntS_far ao bo _ _ cap cap' w hl

set_option maxHeartbeats 1000000 in
theorem caInts_some (b off cap b' off' cap' : Nat) (z y : List Int) (w : World) (hm : z.length ≤ maxLen) (hA : AtI w b off z) (hU : AtI w b' off' y) (hl : z.length = y.length) :
    Calls Try.prog 36 #[.slice (some ⟨b, off, none⟩) z.length cap, .slice (some ⟨b', off', none⟩) y.length cap'] w fun e w' => e = .returned (.bool (decide (z = y))) ∧ Below w.heap.size w w' := by
  unfold maxLen at hm
  have hne : ((z.length : Int) != (y.length : Int)) = false := by simp; omega
  have hul : y.length ≤ 2 ^ 63 - 1 := by omega
  have HL := hide hl
  clear hl
  go_enter Try.func36, Try.ntmps36
  go_wp2
  go_loopw [5] (fun i wr => ∃ (k : Nat), k ≤ z.length ∧ i = .int .i64 k ∧ z.take k = y.take k ∧ Below w.heap.size w wr) (fun i _ => z.length - (intOf i).toNat)
  case atStart => exact ⟨0, Nat.zero_le _, rfl, rfl, Below.refl _ _⟩
  case round =>
    obtain ⟨k, hk, rfl, hx, hB⟩ := hrel
    have HX := hide hx
    clear hx
    by_cases hlt : k < z.length
    · have hlu : k < y.length := by rw [← unhide HL]; exact hlt
      have c0 := (hA.below hB) k hlt
      have d0 := (hU.below hB) k hlu
      obtain ⟨c, hc⟩ : ∃ c, c = z[k] := ⟨_, rfl⟩
      rw [← hc] at c0
      have HC := hide hc
      clear hc
      obtain ⟨d, hd⟩ : ∃ d, d = y[k] := ⟨_, rfl⟩
      rw [← hd] at d0
      have HD := hide hd
      clear hd
      by_cases hsm : c = d
      · have hb : (c != d) = false := by simpa using hsm
        have HS := hide hsm
        clear hsm
        go_wp2
        go_quiet (fail)
        go_wp2
        go_roundw
        case rel => exact ⟨k + 1, by omega, by go_num, by rw [List.take_succ_eq_append_getElem hlt, List.take_succ_eq_append_getElem hlu, unhide HX, ← unhide HC, ← unhide HD, unhide HS], below_drewN hB _⟩
        case measure => simp [intOf]; omega
      · have hb : (c != d) = true := by simpa using hsm
        have HS := hide hsm
        clear hsm
        go_wp2
        go_quiet (fail)
        go_wp2
        go_ret
        refine ⟨ret_bool (decide_eq_no (fun h => ?_)).symm, below_drewN hB _⟩
        have e : c = d := by rw [unhide HC, unhide HD]; simp [h]
        exact (unhide HS) e
    · go_wp2
      go_ret
      refine ⟨ret_bool (decide_eq_yes ?_).symm, hB⟩
      have := unhide HX
      rw [List.take_of_length_le (by omega), List.take_of_length_le (by rw [← unhide HL]; omega)] at this
      exact this

set_option maxHeartbeats 400000 in
theorem caInts_far (ao bo : Option Addr) (n m cap cap' : Nat) (w : World) (hl : n ≠ m) :
    Calls Try.prog 36 #[.slice ao n cap, .slice bo m cap'] w fun e w' => e = .returned (.bool false) ∧ Below w.heap.size w w' := by
  have hne : ((n : Int) != (m : Int)) = true := by rw [bne_iff_ne]; omega
  go_enter Try.func36, Try.ntmps36
  go_wp2
  go_ret
  exact ⟨rfl, Below.refl _ _⟩

set_option maxHeartbeats 400000 in
theorem caInts_none (ao bo : Option Addr) (cap cap' : Nat) (w : World) :
    Calls Try.prog 36 #[.slice ao 0 cap, .slice bo 0 cap'] w fun e w' => e = .returned (.bool true) ∧ Below w.heap.size w w' := by
  go_enter Try.func36, Try.ntmps36
  go_wp2
  refine wp_loop_rounds 1 ?_
  rw [rounds_succ]
  go_wp2
  go_ret
  exact ⟨rfl, Below.refl _ _⟩

theorem caInts_any (ao bo : Option Addr) (cap cap' : Nat) (z y : List Int) (w : World) (hm : z.length ≤ maxLen) (hA : RowI w ao z) (hU : RowI w bo y) :
    Calls Try.prog 36 #[.slice ao z.length cap, .slice bo y.length cap'] w fun e w' => e = .returned (.bool (decide (z = y))) ∧ Below w.heap.size w w' := by
  by_cases hl : z.length = y.length
  · rcases hA with rfl | ⟨b, off, rfl, hA⟩
    · have hu : y = [] := List.length_eq_zero_iff.1 hl.symm
      subst hu
      exact caInts_none ao bo cap cap' w
    · rcases hU with rfl | ⟨b', off', rfl, hU⟩
      · have ht : z = [] := List.length_eq_zero_iff.1 hl
        subst ht
        exact caInts_none _ bo cap cap' w
      · exact caInts_some b off cap b' off' cap' z y w hm hA hU hl
  · rw [decide_eq_no (fun h => hl (by rw [h]))]
    exact caInts_far ao bo _ _ cap cap' w hl

/-- What markIntS writes. -/
def marksI (n : Nat) (k : Int) : List Int := (List.range n).map fun i : Nat => k + (i : Int)

theorem marksI_length (n : Nat) (k : Int) : (marksI n k).length = n := by simp [marksI]
theorem marksI_get {n i : Nat} {k : Int} (h : i < (marksI n k).length) : (marksI n k)[i] = k + i := by simp [marksI]

theorem setI_take (xs : List Value) (j : Nat) (k : Int) (h : j < xs.length) (hx : xs.take j = nums (marksI j k)) : (xs.set j (.int .i64 (k + j))).take (j + 1) = nums (marksI (j + 1) k) := by
  rw [List.take_succ_eq_append_getElem (by simpa using h), List.take_set_of_le (by omega), hx]
  simp [nums, marksI, List.range_succ]

set_option maxHeartbeats 1000000 in
theorem markIntS_some (g cap : Nat) (z : List Int) (k base : Nat) (w : World) (hm : z.length ≤ 4194304) (hk : k ≤ 4194304) (hA : w.ownsRow base 3 1 (.slice (some ⟨g, 0, none⟩) z.length cap) z.length (nums z)) :
    Calls Try.prog 49 #[.slice (some ⟨g, 0, none⟩) z.length cap, .int .i64 k] w fun e w' => e = .returned (.int .i64 (k + z.length)) ∧
      w'.ownsRow base 3 1 (.slice (some ⟨g, 0, none⟩) z.length cap) z.length (nums (marksI z.length k)) ∧ w.grownBy w' (some g) := by
  go_enter Try.func49, Try.ntmps49
  go_wp2
  go_loopw [1, 5] (fun m i wr => ∃ (j : Nat) (xs : List Value), j ≤ z.length ∧ i = .int .i64 j ∧ m = .int .i64 (k + j) ∧ wr.ownsRow base 3 1 (.slice (some ⟨g, 0, none⟩) z.length cap) z.length xs ∧ xs.take j = nums (marksI j k) ∧ w.grownBy wr (some g)) (fun _ i _ => z.length - (intOf i).toNat)
  case atStart => exact ⟨0, _, Nat.zero_le _, rfl, by simp, hA, by simp [nums, marksI], ⟨rfl, rfl, rfl, Nat.le_refl _, fun _ _ _ => rfl⟩⟩
  case round =>
    obtain ⟨j, xs, hj, rfl, rfl, hown, hx, hG⟩ := hrel
    have HX := hide hx
    have hl := hown.1
    clear hx
    by_cases hlt : j < z.length
    · have d0 : wr.cell? ⟨g, j, none⟩ = some (xs[j]'(by omega)) := by rw [hown.cellAt _ (by omega)]; exact List.getElem?_eq_getElem _
      obtain ⟨u, hu⟩ : ∃ u, u = xs[j]'(by omega) := ⟨_, rfl⟩
      rw [← hu] at d0
      clear hu
      have f0 := hown.frozenAt j
      have R := hown.stored j (.int .i64 (k + j))
      have HR := hide R
      have HL := hide hl
      clear R hl hown
      go_wp2
      go_roundw
      case rel => exact ⟨j + 1, _, by omega, by go_num, by go_num, (unhide HR).1, setI_take xs j k (by rw [unhide HL]; omega) (unhide HX), ⟨(unhide HR).2.os.trans hG.os, (unhide HR).2.tape.trans hG.tape, (unhide HR).2.output.trans hG.output, Nat.le_trans hG.size (unhide HR).2.size, fun i hi hn => ((unhide HR).2.block i (Nat.lt_of_lt_of_le hi hG.size) hn).trans (hG.block i hi hn)⟩⟩
      case measure => simp [intOf]; omega
    · go_wp2
      go_ret
      have hjl : j = z.length := by omega
      refine ⟨ret_int (by omega), ?_, hG⟩
      have := unhide HX
      rw [List.take_of_length_le (by omega), hjl] at this
      rw [← this]
      exact hown

theorem grown_refl (w : World) (row : Option Nat) : w.grownBy w row := ⟨rfl, rfl, rfl, Nat.le_refl _, fun _ _ _ => rfl⟩
theorem grown_trans {a b c : World} {row : Option Nat} (h : a.grownBy b row) (k : b.grownBy c row) : a.grownBy c row :=
  ⟨k.os.trans h.os, k.tape.trans h.tape, k.output.trans h.output, Nat.le_trans h.size k.size, fun i hi hn => (k.block i (Nat.lt_of_lt_of_le hi h.size) hn).trans (h.block i hi hn)⟩
theorem grown_below {a b : World} {row : Option Nat} (h : Below a.heap.size a b) : a.grownBy b row := ⟨h.os, h.tape, h.output, h.size, fun i hi _ => h.block i hi⟩

set_option maxHeartbeats 400000 in
theorem markIntS_none (ao : Option Addr) (cap : Nat) (k : Int) (w : World) :
    Calls Try.prog 49 #[.slice ao 0 cap, .int .i64 k] w fun e w' => e = .returned (.int .i64 k) ∧ w' = w := by
  go_enter Try.func49, Try.ntmps49
  go_wp2
  refine wp_loop_rounds 1 ?_
  rw [rounds_succ]
  go_wp2
  go_ret
  exact ⟨rfl, rfl⟩

theorem markIntS_any (ao : Option Addr) (cap : Nat) (z : List Int) (k base : Nat) (w : World) (hm : z.length ≤ 4194304) (hk : k ≤ 4194304) (hA : OwnI w base (.slice ao z.length cap) z) :
    Calls Try.prog 49 #[.slice ao z.length cap, .int .i64 k] w fun e w' => e = .returned (.int .i64 (k + z.length)) ∧
      OwnI w' base (.slice ao z.length cap) (marksI z.length k) ∧ w.grownBy w' (Value.slice ao z.length cap).ownBlock := by
  unfold OwnI at hA ⊢
  rw [marksI_length]
  by_cases h0 : z.length = 0
  · have hz : z = [] := List.length_eq_zero_iff.1 h0
    subst hz
    refine (markIntS_none ao cap k w).mono ?_
    rintro e w' ⟨rfl, rfl⟩
    exact ⟨ret_int (by simp), hA, grown_refl _ _⟩
  · rcases hA.2 with ⟨e, hn⟩ | ⟨g, cap', cur, e, _⟩
    · exact absurd hn h0
    · simp only [Value.slice.injEq] at e
      obtain ⟨rfl, _, rfl⟩ := e
      exact markIntS_some g cap z k base w hm hk hA

set_option maxHeartbeats 1000000 in
theorem heldIntS_some (b off cap n k : Nat) (w : World) (hm : n ≤ 4194304) (hk : k ≤ 4194304) (hA : AtI w b off (marksI n k)) :
    Calls Try.prog 50 #[.slice (some ⟨b, off, none⟩) n cap, .int .i64 k] w fun e w' => e = .returned (.int .i64 (k + n)) ∧ w' = w := by
  go_enter Try.func50, Try.ntmps50
  go_wp2
  go_loop [1, 5] (fun m i => ∃ (j : Nat), j ≤ n ∧ i = .int .i64 j ∧ m = .int .i64 (k + j)) (fun _ i => n - (intOf i).toNat)
  case atStart => exact ⟨0, Nat.zero_le _, rfl, by simp⟩
  case round =>
    obtain ⟨j, hj, rfl, rfl⟩ := hrel
    by_cases hlt : j < n
    · have d0 := hA j (by simpa [marksI] using hlt)
      rw [marksI_get] at d0
      have hne : (((k : Int) + j) != ((k : Int) + j)) = false := by simp
      go_wp2
      go_round
      case rel => exact ⟨j + 1, by omega, by go_num, by go_num⟩
      case measure => simp [intOf]; omega
    · go_wp2
      go_ret
      exact ⟨ret_int (by omega), rfl⟩

set_option maxHeartbeats 400000 in
theorem heldIntS_none (ao : Option Addr) (cap : Nat) (k : Int) (w : World) :
    Calls Try.prog 50 #[.slice ao 0 cap, .int .i64 k] w fun e w' => e = .returned (.int .i64 k) ∧ w' = w := by
  go_enter Try.func50, Try.ntmps50
  go_wp2
  refine wp_loop_rounds 1 ?_
  rw [rounds_succ]
  go_wp2
  go_ret
  exact ⟨rfl, rfl⟩

theorem heldIntS_any (ao : Option Addr) (cap n k : Nat) (w : World) (hm : n ≤ 4194304) (hk : k ≤ 4194304) (hA : RowI w ao (marksI n k)) :
    Calls Try.prog 50 #[.slice ao n cap, .int .i64 k] w fun e w' => e = .returned (.int .i64 (k + n)) ∧ w' = w := by
  rcases hA with h | ⟨b, off, rfl, hA⟩
  · have hn : n = 0 := by have := congrArg List.length h; simpa [marksI_length] using this
    subst hn
    refine (heldIntS_none ao cap k w).mono ?_
    rintro e w' ⟨rfl, rfl⟩
    exact ⟨ret_int (by simp), rfl⟩
  · exact heldIntS_some b off cap n k w hm hk hA
end Go.Proofs.Ytcbgpoofepchmaa
