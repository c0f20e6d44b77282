/- A text with one byte put in, taken out or turned, as the draws make it. -/
import Derived.Test.YthelpghiafbejaaDoorQD4D5
import Derived.Test.YthelpghiafbejaaDoorQW10W13
namespace Go.Proofs.YthelpghiafbejaaDoor
open Go.RowKit
set_option linter.unusedVariables false
set_option linter.unusedSimpArgs false

/-- A text was drawn. -/
def BentOut (w : World) (R p d n : Nat) (e : Ending) (w' : World) : Prop := ∃ (s : ByteArray) (p' : Nat), e = .returned (.string s) ∧ s.size ≤ n ∧ p ≤ p' ∧ p' ≤ p + d ∧ Rd w' R p' ∧ w.grownBy w' (some R)

theorem lit11 (y : Int) (hy0 : 0 ≤ y) (hy1 : y < 256) (j : Nat) (hj : j < 11) : ∃ x : Int, 0 ≤ x ∧ x < 256 ∧
    ∀ (W w2 : World) (R : Nat), R < W.heap.size → (W.alloc (.cells #[.int .i64 32, .int .i64 48, .int .i64 49, .int .i64 57, .int .i64 45, .int .i64 97, .int .i64 88, .int .i64 40, .int .i64 41, .int .i64 44, .int .i64 y] 3)).grownBy w2 (some R) → w2.cell? ⟨W.heap.size, j, none⟩ = some (.int .i64 x) := by
  have hb : ∀ x ∈ ([32, 48, 49, 57, 45, 97, 88, 40, 41, 44, y] : List Int), 0 ≤ x ∧ x < 256 := by
    intro x hx
    simp at hx
    omega
  have hx := hb _ (List.getElem_mem (l := [32, 48, 49, 57, 45, 97, 88, 40, 41, 44, y]) (n := j) (by simp; omega))
  exact ⟨([32, 48, 49, 57, 45, 97, 88, 40, 41, 44, y] : List Int)[j]'(by simp; omega), hx.1, hx.2, fun W w2 R hR hg => pick_lit (xs := [32, 48, 49, 57, 45, 97, 88, 40, 41, 44, y]) hR hg (by simp; omega)⟩

set_option maxRecDepth 100000 in
set_option maxHeartbeats 2000000 in
theorem l20Bent_any (R p : Nat) (s : ByteArray) (w : World) (hs : s.size ≤ 100000) (hp : p ≤ 999980000) (h : Rd w R p) :
    Calls Tryd.prog 20 #[.pointer (some ⟨R, 0, none⟩), .string s] w (BentOut w R p 4 (s.size + 1)) := by
  have hlt := h.lt
  go_enter Tryd.func20, Tryd.ntmps20
  go_wp2_with fail
  refine (pick_any R p (s.size + 1) _ (by omega) (by omega) (by omega) h).mono ?_
  rintro e w1 ⟨r1, rfl, h10, h11, hR1, hG1⟩
  obtain ⟨k, rfl⟩ := Int.eq_ofNat_of_zero_le h10
  have hk : k ≤ s.size := by omega
  go_wp2_with fail
  refine (pick_any R (p + 1) 256 _ (by omega) (by omega) (by omega) hR1).mono ?_
  rintro e w2 ⟨y, rfl, h20, h21, hR2, hG2⟩
  go_wp2_with fail
  refine (pick_any R (p + 1 + 1) 11 _ (by omega) (by omega) (by omega) (hR2.alloc _)).mono ?_
  rintro e w3 ⟨r3, rfl, h30, h31, hR3, hG3⟩
  obtain ⟨j, rfl⟩ := Int.eq_ofNat_of_zero_le h30
  obtain ⟨x, hx0, hx1, hlit⟩ := lit11 y h20 h21 j (by omega)
  have hc := hlit w2 w3 R hR2.lt hG3
  have hcv := conv1 w3 x
  have hg3 : w.grownBy w3 (some R) := grown_trans (grown_trans hG1 hG2) (grown_trans (grown_alloc _ _ _) hG3)
  obtain ⟨u, hu⟩ : ∃ u : ByteArray, u = ⟨#[UInt8.ofNat x.toNat]⟩ := ⟨_, rfl⟩
  have hu1 : u.size = 1 := by rw [hu]; rfl
  rw [← hu] at hcv
  clear hu hlit hG1 hG2 hG3 h20 h21 h10 h11 h30
  go_wp2_with fail
  refine (pick_any R (p + 1 + 1 + 1) 3 _ (by omega) (by omega) (by omega) (hR3.alloc _)).mono ?_
  rintro e w4 ⟨r4, rfl, h40, h41, hR4, hG4⟩
  have hg4 : w.grownBy w4 (some R) := grown_trans hg3 (grown_trans (grown_alloc _ _ _) hG4)
  have HF2 := hide (fun (r : ByteArray) (nq : Nat) (hr : r.size ≤ s.size + 1) => (show BentOut w R p 4 (s.size + 1) (.returned (.string r)) (w4.drewN nq) from ⟨r, _, rfl, hr, by omega, by omega, hR4, ⟨hg4.os, hg4.tape, hg4.output, hg4.size, hg4.block⟩⟩))
  have HF := hide (fun (r : ByteArray) (hr : r.size ≤ s.size + 1) => (show BentOut w R p 4 (s.size + 1) (.returned (.string r)) w4 from ⟨r, _, rfl, hr, by omega, by omega, hR4, hg4⟩))
  have hA : (s.extract 0 k).size = k := by simp; omega
  have hB : (s.extract k s.size).size = s.size - k := by simp
  have q1 : (0 : Int) ≤ (k : Int) := by omega
  have q2 : (k : Int) ≤ (s.size : Int) := by omega
  have qs : s.size ≤ 100000 := hs
  clear hg4 hg3 hR4 hG4 hR3 hR2 hR1 hc hcv
  rcases (show r4 = 0 ∨ r4 = 1 ∨ r4 = 2 by omega) with rfl | rfl | rfl
  · have hcat1 : ¬ ((s.extract 0 k).size + u.size > 9223372036854775807) := by omega
    have hcat2 : ¬ ((s.extract 0 k ++ u).size + (s.extract k s.size).size > 9223372036854775807) := by rw [ByteArray.size_append]; omega
    go_wp2_with fail
    go_quiet (fail)
    go_wp2
    go_ret
    refine unhide HF2 _ _ ?_
    (try simp only [ByteArray.size_append, ByteArray.size_extract]); omega
  · by_cases hlt2 : k < s.size
    · have q3 : (0 : Int) ≤ (k : Int) + 1 := by omega
      have q4 : (k : Int) + 1 ≤ (s.size : Int) := by omega
      have hC : (s.extract (k + 1) s.size).size = s.size - (k + 1) := by simp
      have hcat1 : ¬ ((s.extract 0 k).size + (s.extract (k + 1) s.size).size > 9223372036854775807) := by omega
      go_wp2_with fail
      go_quiet (fail)
      go_wp2
      go_ret
      refine unhide HF2 _ _ ?_
      (try simp only [ByteArray.size_append, ByteArray.size_extract]); omega
    · have FIN := hide (unhide HF s (by omega))
      clear HF HF2
      go_wp2
      go_ret
      exact unhide FIN

  · by_cases hlt2 : k < s.size
    · have q3 : (0 : Int) ≤ (k : Int) + 1 := by omega
      have q4 : (k : Int) + 1 ≤ (s.size : Int) := by omega
      have hC : (s.extract (k + 1) s.size).size = s.size - (k + 1) := by simp
      have hcat1 : ¬ ((s.extract 0 k).size + u.size > 9223372036854775807) := by omega
      have hcat2 : ¬ ((s.extract 0 k ++ u).size + (s.extract (k + 1) s.size).size > 9223372036854775807) := by rw [ByteArray.size_append]; omega
      go_wp2_with fail
      go_quiet (fail)
      go_wp2
      go_ret
      refine unhide HF2 _ _ ?_
      (try simp only [ByteArray.size_append, ByteArray.size_extract]); omega
    · have FIN := hide (unhide HF s (by omega))
      clear HF HF2
      go_wp2
      go_ret
      exact unhide FIN

end Go.Proofs.YthelpghiafbejaaDoor
