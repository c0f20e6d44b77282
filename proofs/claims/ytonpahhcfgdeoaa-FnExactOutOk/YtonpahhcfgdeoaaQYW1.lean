/- The walks of eqByteS, caBytes, markByteS, heldByteS, toByteS. -/
import Derived.Test.YtonpahhcfgdeoaaQMemMem2Mem3W9W11
import Derived.Test.YtonpahhcfgdeoaaQYG3Open2YM
import Derived.OwnWalk
namespace Go.Proofs.Ytonpahhcfgdeoaa
open Go.RowKit
set_option linter.unusedVariables false
set_option linter.unusedSimpArgs false

set_option maxHeartbeats 1000000 in
theorem eqByteS_some (b off cap b' off' cap' : Nat) (z y : List Int) (w : World) (hm : z.length ≤ maxLen) (hA : AtY w b off z) (hU : AtY w b' off' y) (hl : z.length = y.length) :
    Calls Try.prog 22 #[.slice (some ⟨b, off, none⟩) z.length cap, .slice (some ⟨b', off', none⟩) y.length cap'] w fun e w' => e = .returned (.bool (decide (z = y))) ∧ Below w.heap.size w w' := by
  unfold maxLen at hm
  have hne : ((z.length : Int) != (y.length : Int)) = false := by simp; omega
  have hul : y.length ≤ 2 ^ 63 - 1 := by omega
  have HL := hide hl
  clear hl
  go_enter Try.func22, Try.ntmps22
  go_wp2
  go_loopw [5] (fun i wr => ∃ (k : Nat), k ≤ z.length ∧ i = .int .i64 k ∧ z.take k = y.take k ∧ Below w.heap.size w wr) (fun i _ => z.length - (intOf i).toNat)
  case atStart => exact ⟨0, Nat.zero_le _, rfl, rfl, Below.refl _ _⟩
  case round =>
    obtain ⟨k, hk, rfl, hx, hB⟩ := hrel
    have HX := hide hx
    clear hx
    by_cases hlt : k < z.length
    · have hlu : k < y.length := by rw [← unhide HL]; exact hlt
      have c0 := (hA.below hB) k hlt
      have d0 := (hU.below hB) k hlu
      obtain ⟨c, hc⟩ : ∃ c, c = z[k] := ⟨_, rfl⟩
      rw [← hc] at c0
      have HC := hide hc
      clear hc
      obtain ⟨d, hd⟩ : ∃ d, d = y[k] := ⟨_, rfl⟩
      rw [← hd] at d0
      have HD := hide hd
      clear hd
      by_cases hsm : c = d
      · have hb : (c != d) = false := by simpa using hsm
        have HS := hide hsm
        clear hsm
        go_wp2
        go_quiet (fail)
        go_wp2
        go_roundw
        case rel => exact ⟨k + 1, by omega, by go_num, by rw [List.take_succ_eq_append_getElem hlt, List.take_succ_eq_append_getElem hlu, unhide HX, ← unhide HC, ← unhide HD, unhide HS], below_drewN hB _⟩
        case measure => simp [intOf]; omega
      · have hb : (c != d) = true := by simpa using hsm
        have HS := hide hsm
        clear hsm
        go_wp2
        go_quiet (fail)
        go_wp2
        go_ret
        refine ⟨ret_bool (decide_eq_no (fun h => ?_)).symm, below_drewN hB _⟩
        have e : c = d := by rw [unhide HC, unhide HD]; simp [h]
        exact (unhide HS) e
    · go_wp2
      go_ret
      refine ⟨ret_bool (decide_eq_yes ?_).symm, hB⟩
      have := unhide HX
      rw [List.take_of_length_le (by omega), List.take_of_length_le (by rw [← unhide HL]; omega)] at this
      exact this

set_option maxHeartbeats 400000 in
theorem eqByteS_far (ao bo : Option Addr) (n m cap cap' : Nat) (w : World) (hl : n ≠ m) :
    Calls Try.prog 22 #[.slice ao n cap, .slice bo m cap'] w fun e w' => e = .returned (.bool false) ∧ Below w.heap.size w w' := by
  have hne : ((n : Int) != (m : Int)) = true := by rw [bne_iff_ne]; omega
  go_enter Try.func22, Try.ntmps22
  go_wp2
  go_ret
  exact ⟨rfl, Below.refl _ _⟩

set_option maxHeartbeats 400000 in
theorem eqByteS_none (ao bo : Option Addr) (cap cap' : Nat) (w : World) :
    Calls Try.prog 22 #[.slice ao 0 cap, .slice bo 0 cap'] w fun e w' => e = .returned (.bool true) ∧ Below w.heap.size w w' := by
  go_enter Try.func22, Try.ntmps22
  go_wp2
  refine wp_loop_rounds 1 ?_
  rw [rounds_succ]
  go_wp2
  go_ret
  exact ⟨rfl, Below.refl _ _⟩

theorem eqByteS_any (ao bo : Option Addr) (cap cap' : Nat) (z y : List Int) (w : World) (hm : z.length ≤ maxLen) (hA : RowY w ao z) (hU : RowY w bo y) :
    Calls Try.prog 22 #[.slice ao z.length cap, .slice bo y.length cap'] w fun e w' => e = .returned (.bool (decide (z = y))) ∧ Below w.heap.size w w' := by
  by_cases hl : z.length = y.length
  · rcases hA with rfl | ⟨b, off, rfl, hA⟩
    · have hu : y = [] := List.length_eq_zero_iff.1 hl.symm
      subst hu
      exact eqByteS_none ao bo cap cap' w
    · rcases hU with rfl | ⟨b', off', rfl, hU⟩
      · have ht : z = [] := List.length_eq_zero_iff.1 hl
        subst ht
        exact eqByteS_none _ bo cap cap' w
      · exact eqByteS_some b off cap b' off' cap' z y w hm hA hU hl
  · rw [decide_eq_no (fun h => hl (by rw [h]))]
    exact eqByteS_far ao bo _ _ cap cap' w hl

/-- What markByteS writes. -/
def marksY (n : Nat) (k : Int) : List Int := (List.range n).map fun i : Nat => (k + (i : Int)) % 256

theorem marksY_length (n : Nat) (k : Int) : (marksY n k).length = n := by simp [marksY]
theorem marksY_get {n i : Nat} {k : Int} (h : i < (marksY n k).length) : (marksY n k)[i] = (k + i) % 256 := by simp [marksY]

theorem setY_take (xs : List Value) (j : Nat) (k : Int) (h : j < xs.length) (hx : xs.take j = bys (marksY j k)) : (xs.set j (.int .u8 ((k + j) % 256))).take (j + 1) = bys (marksY (j + 1) k) := by
  rw [List.take_succ_eq_append_getElem (by simpa using h), List.take_set_of_le (by omega), hx]
  simp [bys, marksY, List.range_succ]

set_option maxHeartbeats 1000000 in
theorem markByteS_some (g cap : Nat) (z : List Int) (k base : Nat) (w : World) (hm : z.length ≤ 4194304) (hk : k ≤ 4194304) (hA : w.ownsRow base 5 1 (.slice (some ⟨g, 0, none⟩) z.length cap) z.length (bys z)) :
    Calls Try.prog 24 #[.slice (some ⟨g, 0, none⟩) z.length cap, .int .i64 k] w fun e w' => e = .returned (.int .i64 (k + z.length)) ∧
      w'.ownsRow base 5 1 (.slice (some ⟨g, 0, none⟩) z.length cap) z.length (bys (marksY z.length k)) ∧ w.grownBy w' (some g) := by
  go_enter Try.func24, Try.ntmps24
  go_wp2
  go_loopw [1, 5] (fun m i wr => ∃ (j : Nat) (xs : List Value), j ≤ z.length ∧ i = .int .i64 j ∧ m = .int .i64 (k + j) ∧ wr.ownsRow base 5 1 (.slice (some ⟨g, 0, none⟩) z.length cap) z.length xs ∧ xs.take j = bys (marksY j k) ∧ w.grownBy wr (some g)) (fun _ i _ => z.length - (intOf i).toNat)
  case atStart => exact ⟨0, _, Nat.zero_le _, rfl, by simp, hA, by simp [bys, marksY], ⟨rfl, rfl, rfl, Nat.le_refl _, fun _ _ _ => rfl⟩⟩
  case round =>
    obtain ⟨j, xs, hj, rfl, rfl, hown, hx, hG⟩ := hrel
    have HX := hide hx
    have hl := hown.1
    clear hx
    by_cases hlt : j < z.length
    · have d0 : wr.cell? ⟨g, j, none⟩ = some (xs[j]'(by omega)) := by rw [hown.cellAt _ (by omega)]; exact List.getElem?_eq_getElem _
      obtain ⟨u, hu⟩ : ∃ u, u = xs[j]'(by omega) := ⟨_, rfl⟩
      rw [← hu] at d0
      clear hu
      have f0 := hown.frozenAt j
      have R := hown.stored j (.int .u8 ((k + j) % 256))
      have HR := hide R
      have HL := hide hl
      clear R hl hown
      go_wp2
      go_roundw
      case rel => exact ⟨j + 1, _, by omega, by go_num, by go_num, (unhide HR).1, setY_take xs j k (by rw [unhide HL]; omega) (unhide HX), ⟨(unhide HR).2.os.trans hG.os, (unhide HR).2.tape.trans hG.tape, (unhide HR).2.output.trans hG.output, Nat.le_trans hG.size (unhide HR).2.size, fun i hi hn => ((unhide HR).2.block i (Nat.lt_of_lt_of_le hi hG.size) hn).trans (hG.block i hi hn)⟩⟩
      case measure => simp [intOf]; omega
    · go_wp2
      go_ret
      have hjl : j = z.length := by omega
      refine ⟨ret_int (by omega), ?_, hG⟩
      have := unhide HX
      rw [List.take_of_length_le (by omega), hjl] at this
      rw [← this]
      exact hown

set_option maxHeartbeats 400000 in
theorem markByteS_none (ao : Option Addr) (cap : Nat) (k : Int) (w : World) :
    Calls Try.prog 24 #[.slice ao 0 cap, .int .i64 k] w fun e w' => e = .returned (.int .i64 k) ∧ w' = w := by
  go_enter Try.func24, Try.ntmps24
  go_wp2
  refine wp_loop_rounds 1 ?_
  rw [rounds_succ]
  go_wp2
  go_ret
  exact ⟨rfl, rfl⟩

theorem markByteS_any (ao : Option Addr) (cap : Nat) (z : List Int) (k base : Nat) (w : World) (hm : z.length ≤ 4194304) (hk : k ≤ 4194304) (hA : OwnY w base (.slice ao z.length cap) z) :
    Calls Try.prog 24 #[.slice ao z.length cap, .int .i64 k] w fun e w' => e = .returned (.int .i64 (k + z.length)) ∧
      OwnY w' base (.slice ao z.length cap) (marksY z.length k) ∧ w.grownBy w' (Value.slice ao z.length cap).ownBlock := by
  unfold OwnY at hA ⊢
  rw [marksY_length]
  by_cases h0 : z.length = 0
  · have hz : z = [] := List.length_eq_zero_iff.1 h0
    subst hz
    refine (markByteS_none ao cap k w).mono ?_
    rintro e w' ⟨rfl, rfl⟩
    exact ⟨ret_int (by simp), hA, grown_refl _ _⟩
  · rcases hA.2 with ⟨e, hn⟩ | ⟨g, cap', cur, e, _⟩
    · exact absurd hn h0
    · simp only [Value.slice.injEq] at e
      obtain ⟨rfl, _, rfl⟩ := e
      exact markByteS_some g cap z k base w hm hk hA

set_option maxHeartbeats 1000000 in
theorem heldByteS_some (b off cap n k : Nat) (w : World) (hm : n ≤ 4194304) (hk : k ≤ 4194304) (hA : AtY w b off (marksY n k)) :
    Calls Try.prog 25 #[.slice (some ⟨b, off, none⟩) n cap, .int .i64 k] w fun e w' => e = .returned (.int .i64 (k + n)) ∧ w' = w := by
  go_enter Try.func25, Try.ntmps25
  go_wp2
  go_loop [1, 5] (fun m i => ∃ (j : Nat), j ≤ n ∧ i = .int .i64 j ∧ m = .int .i64 (k + j)) (fun _ i => n - (intOf i).toNat)
  case atStart => exact ⟨0, Nat.zero_le _, rfl, by simp⟩
  case round =>
    obtain ⟨j, hj, rfl, rfl⟩ := hrel
    by_cases hlt : j < n
    · have d0 := hA j (by simpa [marksY] using hlt)
      rw [marksY_get] at d0
      have hne : ((((k : Int) + j) % 256) != (((k : Int) + j) % 256)) = false := by simp
      go_wp2
      go_round
      case rel => exact ⟨j + 1, by omega, by go_num, by go_num⟩
      case measure => simp [intOf]; omega
    · go_wp2
      go_ret
      exact ⟨ret_int (by omega), rfl⟩

set_option maxHeartbeats 400000 in
theorem heldByteS_none (ao : Option Addr) (cap : Nat) (k : Int) (w : World) :
    Calls Try.prog 25 #[.slice ao 0 cap, .int .i64 k] w fun e w' => e = .returned (.int .i64 k) ∧ w' = w := by
  go_enter Try.func25, Try.ntmps25
  go_wp2
  refine wp_loop_rounds 1 ?_
  rw [rounds_succ]
  go_wp2
  go_ret
  exact ⟨rfl, rfl⟩

theorem heldByteS_any (ao : Option Addr) (cap n k : Nat) (w : World) (hm : n ≤ 4194304) (hk : k ≤ 4194304) (hA : RowY w ao (marksY n k)) :
    Calls Try.prog 25 #[.slice ao n cap, .int .i64 k] w fun e w' => e = .returned (.int .i64 (k + n)) ∧ w' = w := by
  rcases hA with h | ⟨b, off, rfl, hA⟩
  · have hn : n = 0 := by have := congrArg List.length h; simpa [marksY_length] using this
    subst hn
    refine (heldByteS_none ao cap k w).mono ?_
    rintro e w' ⟨rfl, rfl⟩
    exact ⟨ret_int (by simp), rfl⟩
  · exact heldByteS_some b off cap n k w hm hk hA

theorem Try.infoByte : (Try.prog.info? 5).map (fun i => (i.zero, i.size, i.bytes)) = some (some (.int .u8 0), 1, 1) := by kernel_rfl

theorem toY_round {w wr : World} {g n k : Nat} {xs : List Value} {z : List Int} {x : Int} (hk : k < z.length) (hc : x = z[k]) (hn : n = z.length)
    (hown : wr.ownsRow w.heap.size 5 1 (.slice (some ⟨g, 0, none⟩) n n) n xs) (hx : xs.take k = bys (z.take k)) (hB : Below w.heap.size w wr) :
    ∃ xs', (wr.setCell ⟨g, k, none⟩ (.int .u8 x)).ownsRow w.heap.size 5 1 (.slice (some ⟨g, 0, none⟩) n n) n xs' ∧ xs'.take (k + 1) = bys (z.take (k + 1)) ∧ Below w.heap.size w (wr.setCell ⟨g, k, none⟩ (.int .u8 x)) := by
  have hgb : w.heap.size ≤ g ∧ g < wr.heap.size := hown.lt g rfl
  have hl : xs.length = n * 1 := hown.1
  refine ⟨_, (hown.stored k (.int .u8 x)).1, ?_, hB.setCell (p := ⟨g, _, none⟩) hgb.1 _⟩
  rw [List.take_succ_eq_append_getElem (by simp; omega), List.take_set_of_le (by omega), hx, List.take_succ_eq_append_getElem hk, bys_app, ← hc]
  simp [bys]

end Go.Proofs.Ytonpahhcfgdeoaa
