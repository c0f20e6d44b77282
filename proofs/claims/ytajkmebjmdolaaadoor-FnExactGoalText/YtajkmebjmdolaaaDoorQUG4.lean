/- The walk of FnExactGoalText. -/
import Derived.Test.YtajkmebjmdolaaaDoorQUG2
import Derived.Test.YtajkmebjmdolaaaDoorQUG3
import Derived.Test.YtajkmebjmdolaaaDoorQW5
import Derived.Test.YtajkmebjmdolaaaDoorQT4W6
import Derived.Test.YtajkmebjmdolaaaDoorQPX1Mem2Mem3
import Derived.Test.YtajkmebjmdolaaaDoorQW10W13SB1
import Derived.Deep.RegionHeld3
namespace Go.Proofs.YtajkmebjmdolaaaDoor
open Go.RowKit
set_option linter.unusedVariables false
set_option linter.unusedSimpArgs false

set_option maxRecDepth 100000 in
set_option maxHeartbeats 2000000 in
theorem FnExactGoalText_walk (v : Int) (xa ya za : Option Addr) (xc yc zc : Nat) (a b c : List C) (w : World) (ha : a.length ≤ maxLen) (hb : b.length ≤ maxLen) (hc : c.length ≤ maxLen) (hA : Row w xa a) (hB : Row w ya b) (hC : Row w za c) (fA : Fit a) (fB : Fit b) (fC : Fit c) (hTen : TenT w) :
    Calls Tryd.prog 3 #[.agg #[.int .i64 v, .slice xa a.length xc, .slice ya b.length yc, .slice za c.length zc]] w fun e w' => e = .returned (.bool true) ∧ Below w.heap.size w w' := by
  have HTEN := hide hTen
  clear hTen
  obtain ⟨hb0, d1, d2, d3⟩ := four_new w (.int .i64 v) (.slice xa a.length xc) (.slice ya b.length yc) (.slice za c.length zc) 24
  have d0 : (w.alloc (.cells #[.int .i64 v, .slice xa a.length xc, .slice ya b.length yc, .slice za c.length zc] 24)).cell? ⟨w.heap.size, 0, none⟩ = some (.int .i64 v) := by
    have hb := World.alloc_heap_new w (.cells #[.int .i64 v, .slice xa a.length xc, .slice ya b.length yc, .slice za c.length zc] 24)
    simp only [World.cell?]; rw [hb]; rfl
  go_enter Tryd.func3, Tryd.ntmps3
  go_wp2_with fail
  generalize w.alloc (.cells #[.int .i64 v, .slice xa a.length xc, .slice ya b.length yc, .slice za c.length zc] 24) = w0 at hb0 d0 d1 d2 d3 ⊢
  have hl0 : w.heap.size < w0.heap.size := World.block_lt_of_cell? w0 ⟨_, _, none⟩ d1
  refine (szPrgGoal_any v xa ya za xc yc zc a b c 1048576 _ ha hb hc (hA.below hb0) (hB.below hb0) (hC.below hb0) fA fB fC (by omega) (by omega)).mono ?_
  rintro e w1 ⟨r, rfl, hr, hb1⟩
  have hB1 := bstep hb0 hb1
  by_cases hr0 : r < 0
  · go_wp2
    go_ret
    exact ⟨rfl, hB1⟩
  have HT := hide (fun (W : World) (hW : Below w.heap.size w W) => (⟨hA.below hW, hB.below hW, hC.below hW, fA, fB, fC, by omega, by omega, by omega⟩ : Trip W xa ya za a b c))
  clear hr hA hB hC
  replace d0 := (hb1.cell (p := ⟨w.heap.size, 0, none⟩) hl0).trans d0
  replace d1 := (hb1.cell (p := ⟨w.heap.size, 1, none⟩) hl0).trans d1
  replace d2 := (hb1.cell (p := ⟨w.heap.size, 2, none⟩) hl0).trans d2
  replace d3 := (hb1.cell (p := ⟨w.heap.size, 3, none⟩) hl0).trans d3
  replace hl0 : w.heap.size < w1.heap.size := World.block_lt_of_cell? w1 ⟨_, _, none⟩ d1
  go_wp2_with fail
  refine (toPrgGoal_any v xa ya za xc yc zc a b c w1 (unhide HT _ hB1)).mono ?_
  rintro e w2 ⟨g1, g2, g3, rfl, T1, hb2⟩
  replace d0 := (hb2.cell (p := ⟨w.heap.size, 0, none⟩) hl0).trans d0
  replace d1 := (hb2.cell (p := ⟨w.heap.size, 1, none⟩) hl0).trans d1
  replace d2 := (hb2.cell (p := ⟨w.heap.size, 2, none⟩) hl0).trans d2
  replace d3 := (hb2.cell (p := ⟨w.heap.size, 3, none⟩) hl0).trans d3
  replace hl0 : w.heap.size < w2.heap.size := World.block_lt_of_cell? w2 ⟨_, _, none⟩ d1
  have hB2 := bstep hB1 hb2
  go_wp2_with fail
  refine (specGoalText_any v _ _ _ _ _ _ a b c w2 T1).mono ?_
  rintro e w3 ⟨rfl, hb3⟩
  replace d0 := (hb3.cell (p := ⟨w.heap.size, 0, none⟩) hl0).trans d0
  replace d1 := (hb3.cell (p := ⟨w.heap.size, 1, none⟩) hl0).trans d1
  replace d2 := (hb3.cell (p := ⟨w.heap.size, 2, none⟩) hl0).trans d2
  replace d3 := (hb3.cell (p := ⟨w.heap.size, 3, none⟩) hl0).trans d3
  replace hl0 : w.heap.size < w3.heap.size := World.block_lt_of_cell? w3 ⟨_, _, none⟩ d1
  have hB3 := bstep hB2 hb3
  clear T1 hb0 hb1 hb2 hb3 hB1 hB2
  obtain ⟨B, hB⟩ : ∃ B, B = gX v a b c := ⟨_, rfl⟩
  rw [← hB]
  have HBB := hide hB
  clear hB
  go_wp2_with fail
  refine (toPrgGoal_any v xa ya za xc yc zc a b c w3 (unhide HT _ hB3)).mono ?_
  rintro e w4 ⟨g1', g2', g3', rfl, T1, hb4⟩
  replace d0 := (hb4.cell (p := ⟨w.heap.size, 0, none⟩) hl0).trans d0
  replace d1 := (hb4.cell (p := ⟨w.heap.size, 1, none⟩) hl0).trans d1
  replace d2 := (hb4.cell (p := ⟨w.heap.size, 2, none⟩) hl0).trans d2
  replace d3 := (hb4.cell (p := ⟨w.heap.size, 3, none⟩) hl0).trans d3
  replace hl0 : w.heap.size < w4.heap.size := World.block_lt_of_cell? w4 ⟨_, _, none⟩ d1
  have hB4 := bstep hB3 hb4
  go_wp2_with fail
  obtain ⟨nb, n1, n2, n3⟩ := four_new w4 (.int .i64 v) (.slice (some ⟨g1', 0, none⟩) a.length a.length) (.slice (some ⟨g2', 0, none⟩) b.length b.length) (.slice (some ⟨g3', 0, none⟩) c.length c.length) 29
  have n0 : (w4.alloc (.cells #[.int .i64 v, .slice (some ⟨g1', 0, none⟩) a.length a.length, .slice (some ⟨g2', 0, none⟩) b.length b.length, .slice (some ⟨g3', 0, none⟩) c.length c.length] 29)).cell? ⟨w4.heap.size, 0, none⟩ = some (.int .i64 v) := by
    have hb := World.alloc_heap_new w4 (.cells #[.int .i64 v, .slice (some ⟨g1', 0, none⟩) a.length a.length, .slice (some ⟨g2', 0, none⟩) b.length b.length, .slice (some ⟨g3', 0, none⟩) c.length c.length] 29)
    simp only [World.cell?]; rw [hb]; rfl
  generalize w4.alloc (.cells #[.int .i64 v, .slice (some ⟨g1', 0, none⟩) a.length a.length, .slice (some ⟨g2', 0, none⟩) b.length b.length, .slice (some ⟨g3', 0, none⟩) c.length c.length] 29) = w5 at nb n0 n1 n2 n3 ⊢
  replace d0 := (nb.cell (p := ⟨w.heap.size, 0, none⟩) hl0).trans d0
  replace d1 := (nb.cell (p := ⟨w.heap.size, 1, none⟩) hl0).trans d1
  replace d2 := (nb.cell (p := ⟨w.heap.size, 2, none⟩) hl0).trans d2
  replace d3 := (nb.cell (p := ⟨w.heap.size, 3, none⟩) hl0).trans d3
  replace hl0 : w.heap.size < w5.heap.size := World.block_lt_of_cell? w5 ⟨_, _, none⟩ d1
  have hx0 : w4.heap.size < w5.heap.size := World.block_lt_of_cell? w5 ⟨_, _, none⟩ n1
  replace T1 := T1.below nb
  have hB5 := bstep hB4 nb
  clear nb hb4 hB4 hB3
  generalize w4.heap.size = X at n0 n1 n2 n3 hx0 ⊢
  have hla : a.length ≤ maxLen := mil T1.la
  have hlb : b.length ≤ maxLen := mil T1.lb
  have hlc : c.length ≤ maxLen := mil T1.lc
  refine (implGoalText_any v _ _ _ _ _ _ a b c w5 T1 ⟨Nat.le_refl _, hla⟩ ⟨Nat.le_refl _, hlb⟩ ⟨Nat.le_refl _, hlc⟩ ((unhide HTEN).below hB5)).mono ?_
  rintro e w6 ⟨rfl, hb6⟩
  replace d0 := (hb6.cell (p := ⟨w.heap.size, 0, none⟩) hl0).trans d0
  replace d1 := (hb6.cell (p := ⟨w.heap.size, 1, none⟩) hl0).trans d1
  replace d2 := (hb6.cell (p := ⟨w.heap.size, 2, none⟩) hl0).trans d2
  replace d3 := (hb6.cell (p := ⟨w.heap.size, 3, none⟩) hl0).trans d3
  replace n0 := (hb6.cell (p := ⟨X, 0, none⟩) hx0).trans n0
  replace n1 := (hb6.cell (p := ⟨X, 1, none⟩) hx0).trans n1
  replace n2 := (hb6.cell (p := ⟨X, 2, none⟩) hx0).trans n2
  replace n3 := (hb6.cell (p := ⟨X, 3, none⟩) hx0).trans n3
  replace hl0 : w.heap.size < w6.heap.size := World.block_lt_of_cell? w6 ⟨_, _, none⟩ d1
  replace hx0 : X < w6.heap.size := World.block_lt_of_cell? w6 ⟨_, _, none⟩ n1
  replace T1 := T1.below hb6
  have hB6 := bstep hB5 hb6
  clear hb6 hB5 hla hlb hlc
  have HG : Hid (B = gX v a b c) := HBB
  rw [← unhide HG]
  go_wp2_with fail
  have hB6d := hB6.drew
  go_region_held3 (fun w' => w'.cell? ⟨w.heap.size, 0, none⟩ = some (.int .i64 v) ∧ w'.cell? ⟨w.heap.size, 1, none⟩ = some (.slice xa a.length xc) ∧ w'.cell? ⟨w.heap.size, 2, none⟩ = some (.slice ya b.length yc) ∧ w'.cell? ⟨w.heap.size, 3, none⟩ = some (.slice za c.length zc) ∧ w'.cell? ⟨X, 0, none⟩ = some (.int .i64 v) ∧ w'.cell? ⟨X, 1, none⟩ = some (.slice (some ⟨g1', 0, none⟩) a.length a.length) ∧ w'.cell? ⟨X, 2, none⟩ = some (.slice (some ⟨g2', 0, none⟩) b.length b.length) ∧ w'.cell? ⟨X, 3, none⟩ = some (.slice (some ⟨g3', 0, none⟩) c.length c.length)) (first | (refine ⟨?_, ?_, ?_, ?_, ?_, ?_, ?_, ?_⟩ <;> assumption) | go_keep) (first
    | (go_at_call 9; have hx := hb7; refine (eqPrgGoal_yes v _ _ _ _ _ _ _ _ _ _ _ _ a b c w7 T1' T2).mono ?_; rintro e w8 ⟨rfl, hb8⟩; have i0 := (hb8.cell (p := ⟨w.heap.size, 0, none⟩) hl7).trans m0; have i1 := (hb8.cell (p := ⟨w.heap.size, 1, none⟩) hl7).trans m1; have i2 := (hb8.cell (p := ⟨w.heap.size, 2, none⟩) hl7).trans m2; have i3 := (hb8.cell (p := ⟨w.heap.size, 3, none⟩) hl7).trans m3; have j0 := (hb8.cell (p := ⟨X, 0, none⟩) hx7).trans k0; have j1 := (hb8.cell (p := ⟨X, 1, none⟩) hx7).trans k1; have j2 := (hb8.cell (p := ⟨X, 2, none⟩) hx7).trans k2; have j3 := (hb8.cell (p := ⟨X, 3, none⟩) hx7).trans k3)
    | (go_at_call 7; refine (toPrgGoal_any v xa ya za xc yc zc a b c w6.drew (unhide HT _ hB6d)).mono ?_; rintro e w7 ⟨t1, t2, t3, rfl, T2, hb7⟩; have m0 := (hb7.cell (p := ⟨w.heap.size, 0, none⟩) hl0).trans d0; have m1 := (hb7.cell (p := ⟨w.heap.size, 1, none⟩) hl0).trans d1; have m2 := (hb7.cell (p := ⟨w.heap.size, 2, none⟩) hl0).trans d2; have m3 := (hb7.cell (p := ⟨w.heap.size, 3, none⟩) hl0).trans d3; have k0 := (hb7.cell (p := ⟨X, 0, none⟩) hx0).trans n0; have k1 := (hb7.cell (p := ⟨X, 1, none⟩) hx0).trans n1; have k2 := (hb7.cell (p := ⟨X, 2, none⟩) hx0).trans n2; have k3 := (hb7.cell (p := ⟨X, 3, none⟩) hx0).trans n3; have hl7 : w.heap.size < w7.heap.size := World.block_lt_of_cell? w7 ⟨_, _, none⟩ m1; have hx7 : X < w7.heap.size := World.block_lt_of_cell? w7 ⟨_, _, none⟩ k1; have T1' := (T1.below (Below.refl _ _).drew).below hb7))
  go_wp2
  go_ret
  exact ⟨rfl, bstep (bstep hB6d hb7) hb8⟩
end Go.Proofs.YtajkmebjmdolaaaDoor
