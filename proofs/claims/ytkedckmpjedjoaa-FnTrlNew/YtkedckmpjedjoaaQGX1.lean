/- The laws' helpers over goals: szPrgGoal, toPrgGoal, eqPrgGoal; the walk of FnExactGoalOk. -/
import Derived.Test.YtkedckmpjedjoaaQGI7PB1SB1
import Derived.Test.YtkedckmpjedjoaaQG2GI1BR1FL5
import Derived.Test.YtkedckmpjedjoaaQW5
import Derived.Test.YtkedckmpjedjoaaQW3W4W6
import Derived.Test.YtkedckmpjedjoaaQW1Mem2Mem3W9
import Derived.Deep.RegionHeld3
namespace Go.Proofs.Ytkedckmpjedjoaa
open Go.RowKit
set_option linter.unusedVariables false
set_option linter.unusedSimpArgs false

set_option maxRecDepth 100000 in
set_option maxHeartbeats 1000000 in
theorem szPrgGoal_any (v : Int) (xa ya za : Option Addr) (xc yc zc : Nat) (a b c : List C) (l : Int) (w : World) (ha : a.length ≤ maxLen) (hb : b.length ≤ maxLen) (hc : c.length ≤ maxLen) (hA : Row w xa a) (hB : Row w ya b) (hC : Row w za c) (fA : Fit a) (fB : Fit b) (fC : Fit c) (h0 : 0 ≤ l) (h1 : l ≤ 1048576) :
    Calls Try.prog 166 #[.agg #[.int .i64 v, .slice xa a.length xc, .slice ya b.length yc, .slice za c.length zc], .int .i64 l] w fun e w' => ∃ r : Int, e = .returned (.int .i64 r) ∧ (r < 0 ∨ (0 ≤ r ∧ r + a.length + b.length + c.length ≤ l)) ∧ Below w.heap.size w w' := by
  obtain ⟨hb0, d1, d2, d3⟩ := four_new w (.int .i64 v) (.slice xa a.length xc) (.slice ya b.length yc) (.slice za c.length zc) 186
  go_enter Try.func166, Try.ntmps166
  go_wp2_with fail
  generalize w.alloc (.cells #[.int .i64 v, .slice xa a.length xc, .slice ya b.length yc, .slice za c.length zc] 186) = w0 at hb0 d1 d2 d3 ⊢
  have hl0 : w.heap.size < w0.heap.size := World.block_lt_of_cell? w0 ⟨_, _, none⟩ d1
  refine (szTrmCellS_any xa xc a l _ ha (hA.below hb0) fA h0 h1).mono ?_
  rintro e w1 ⟨r, rfl, hr, hb1⟩
  have e2 := (hb1.cell (p := ⟨w.heap.size, 2, none⟩) hl0).trans d2
  have e3 := (hb1.cell (p := ⟨w.heap.size, 3, none⟩) hl0).trans d3
  have hl1 : w.heap.size < w1.heap.size := World.block_lt_of_cell? w1 ⟨_, _, none⟩ e2
  have hB1 := bstep hb0 hb1
  by_cases hn : r < 0
  · go_wp2
    go_ret
    exact ⟨_, rfl, by omega, hB1⟩
  go_wp2_with fail
  refine (szTrmCellS_any ya yc b r _ hb (hB.below hB1) fB (by omega) (by omega)).mono ?_
  rintro e w2 ⟨r2, rfl, hr2, hb2⟩
  have g3 := (hb2.cell (p := ⟨w.heap.size, 3, none⟩) hl1).trans e3
  have hB2 := bstep hB1 hb2
  by_cases hn2 : r2 < 0
  · go_wp2
    go_ret
    exact ⟨_, rfl, by omega, hB2⟩
  go_wp2_with fail
  refine (szTrmCellS_any za zc c r2 _ hc (hC.below hB2) fC (by omega) (by omega)).mono ?_
  rintro e w3 ⟨r3, rfl, hr3, hb3⟩
  have hB3 := bstep hB2 hb3
  by_cases hn3 : r3 < 0
  · go_wp2
    go_ret
    exact ⟨_, rfl, by omega, hB3⟩
  go_wp2
  go_ret
  exact ⟨_, rfl, by omega, hB3⟩

theorem sameS_self (t : List C) : sameS t t = true := sameS_yes rfl
set_option maxRecDepth 100000 in
set_option maxHeartbeats 1000000 in
theorem eqPrgGoal_yes (v : Int) (xa ya za : Option Addr) (xa' ya' za' : Option Addr) (xc yc zc xc' yc' zc' : Nat) (a b c : List C) (w : World) (h : Trip w xa ya za a b c) (h' : Trip w xa' ya' za' a b c) :
    Calls Try.prog 161 #[.agg #[.int .i64 v, .slice xa a.length xc, .slice ya b.length yc, .slice za c.length zc], .agg #[.int .i64 v, .slice xa' a.length xc', .slice ya' b.length yc', .slice za' c.length zc']] w fun e w' => e = .returned (.bool true) ∧ Below w.heap.size w w' := by
  have hne : (v != v) = false := by simp
  have HA := hide (fun (W : World) (hW : Below w.heap.size w W) => eqTrmCellS_any xa xa' xc xc' a a W (mil h.la) ((h.below hW).ra) ((h'.below hW).ra))
  have HB := hide (fun (W : World) (hW : Below w.heap.size w W) => eqTrmCellS_any ya ya' yc yc' b b W (mil h.lb) ((h.below hW).rb) ((h'.below hW).rb))
  have HC := hide (fun (W : World) (hW : Below w.heap.size w W) => eqTrmCellS_any za za' zc zc' c c W (mil h.lc) ((h.below hW).rc) ((h'.below hW).rc))
  simp only [sameS_self] at HA HB HC
  clear h h'
  obtain ⟨hb0, d1, d2, d3⟩ := four_new w (.int .i64 v) (.slice xa a.length xc) (.slice ya b.length yc) (.slice za c.length zc) 93
  have d0 : (w.alloc (.cells #[.int .i64 v, .slice xa a.length xc, .slice ya b.length yc, .slice za c.length zc] 93)).cell? ⟨w.heap.size, 0, none⟩ = some (.int .i64 v) := by
    have hb := World.alloc_heap_new w (.cells #[.int .i64 v, .slice xa a.length xc, .slice ya b.length yc, .slice za c.length zc] 93)
    simp only [World.cell?]; rw [hb]; rfl
  go_enter Try.func161, Try.ntmps161
  go_wp2_with fail
  obtain ⟨hb1, x1, x2, x3⟩ := four_new (w.alloc (.cells #[.int .i64 v, .slice xa a.length xc, .slice ya b.length yc, .slice za c.length zc] 93)) (.int .i64 v) (.slice xa' a.length xc') (.slice ya' b.length yc') (.slice za' c.length zc') 93
  have hs : (w.alloc (.cells #[.int .i64 v, .slice xa a.length xc, .slice ya b.length yc, .slice za c.length zc] 93)).heap.size = w.heap.size + 1 := by simp
  rw [hs] at x1 x2 x3
  have hl0 : w.heap.size < w.heap.size + 1 := by omega
  have y2 := (hb1.cell (p := ⟨w.heap.size, 2, none⟩) (by rw [hs]; exact hl0)).trans d2
  have y3 := (hb1.cell (p := ⟨w.heap.size, 3, none⟩) (by rw [hs]; exact hl0)).trans d3
  have hB1 := bstep hb0 hb1
  generalize (w.alloc (.cells #[.int .i64 v, .slice xa a.length xc, .slice ya b.length yc, .slice za c.length zc] 93)).alloc (.cells #[.int .i64 v, .slice xa' a.length xc', .slice ya' b.length yc', .slice za' c.length zc'] 93) = w0 at x1 x2 x3 y2 y3 hB1 ⊢
  clear hb0 hb1 d0 d1 d2 d3 hs x1
  have k0 : w.heap.size + 1 < w0.heap.size := World.block_lt_of_cell? w0 ⟨_, _, none⟩ x2
  have k1 : w.heap.size < w0.heap.size := by omega
  refine (unhide HA _ hB1).mono ?_
  rintro e w1 ⟨rfl, hb1⟩
  have u2 := (hb1.cell (p := ⟨w.heap.size + 1, 2, none⟩) k0).trans x2
  have u3 := (hb1.cell (p := ⟨w.heap.size + 1, 3, none⟩) k0).trans x3
  have z2 := (hb1.cell (p := ⟨w.heap.size, 2, none⟩) k1).trans y2
  have z3 := (hb1.cell (p := ⟨w.heap.size, 3, none⟩) k1).trans y3
  have hB2 := bstep hB1 hb1
  have m0 : w.heap.size + 1 < w1.heap.size := World.block_lt_of_cell? w1 ⟨_, _, none⟩ u2
  have m1 : w.heap.size < w1.heap.size := by omega
  clear x2 x3 y2 y3 hB1 hb1 k0 k1 HA
  go_wp2_with fail
  refine (unhide HB _ hB2).mono ?_
  rintro e w2 ⟨rfl, hb2⟩
  have p3 := (hb2.cell (p := ⟨w.heap.size + 1, 3, none⟩) m0).trans u3
  have q3 := (hb2.cell (p := ⟨w.heap.size, 3, none⟩) m1).trans z3
  have hB3 := bstep hB2 hb2
  clear u2 u3 z2 z3 hb2 m0 m1 HB hB2
  go_wp2_with fail
  refine (unhide HC _ hB3).mono ?_
  rintro e w3 ⟨rfl, hb3⟩
  have hB4 := bstep hB3 hb3
  go_wp2
  go_ret
  exact ⟨rfl, hB4⟩
set_option maxRecDepth 100000 in
set_option maxHeartbeats 1000000 in
theorem toPrgGoal_any (v : Int) (xa ya za : Option Addr) (xc yc zc : Nat) (a b c : List C) (w : World) (h : Trip w xa ya za a b c) :
    Calls Try.prog 167 #[.agg #[.int .i64 v, .slice xa a.length xc, .slice ya b.length yc, .slice za c.length zc]] w fun e w' => ∃ g1 g2 g3, e = .returned (.agg #[.int .i64 v, .slice (some ⟨g1, 0, none⟩) a.length a.length, .slice (some ⟨g2, 0, none⟩) b.length b.length, .slice (some ⟨g3, 0, none⟩) c.length c.length]) ∧ Trip w' (some ⟨g1, 0, none⟩) (some ⟨g2, 0, none⟩) (some ⟨g3, 0, none⟩) a b c ∧ Below w.heap.size w w' := by
  go_enter Try.func167, Try.ntmps167
  go_wp2_with fail
  obtain ⟨W, hW⟩ : ∃ W, W = ((w.alloc (Obj.cells #[Value.int IntKind.i64 v, .slice xa a.length xc, .slice ya b.length yc, .slice za c.length zc] 186)).alloc (Obj.cells #[Value.int IntKind.i64 0, Value.slice none 0 0, Value.slice none 0 0, Value.slice none 0 0] 93)).alloc (Obj.cells #[Value.int IntKind.i64 v, Value.slice none 0 0, Value.slice none 0 0, Value.slice none 0 0] 93) := ⟨_, rfl⟩
  have hB0 : Below w.heap.size w W := by rw [hW]; exact below3 _ _ _ _
  have hsz : W.heap.size = w.heap.size + 3 := by rw [hW]; simp
  have A2 : W.cell? ⟨w.heap.size, 2, none⟩ = some (.slice ya b.length yc) := by rw [hW]; simp [go_sem]
  have A3 : W.cell? ⟨w.heap.size, 3, none⟩ = some (.slice za c.length zc) := by rw [hW]; simp [go_sem]
  have c0 : W.cell? ⟨w.heap.size + 1 + 1, 0, none⟩ = some (.int .i64 v) := by rw [hW]; simp [go_sem]
  have z0 : W.cell? ⟨w.heap.size + 1, 0, none⟩ = some (.int .i64 0) := by rw [hW]; simp [go_sem]
  have f0 : W.frozen? ⟨w.heap.size + 1 + 1, 0, none⟩ = false := by rw [hW]; simp [go_sem]
  have y0 : W.frozen? ⟨w.heap.size + 1, 0, none⟩ = false := by rw [hW]; simp [go_sem]
  have c1 : W.cell? ⟨w.heap.size + 1 + 1, 1, none⟩ = some (.slice none 0 0) := by rw [hW]; simp [go_sem]
  have z1 : W.cell? ⟨w.heap.size + 1, 1, none⟩ = some (.slice none 0 0) := by rw [hW]; simp [go_sem]
  have f1 : W.frozen? ⟨w.heap.size + 1 + 1, 1, none⟩ = false := by rw [hW]; simp [go_sem]
  have y1 : W.frozen? ⟨w.heap.size + 1, 1, none⟩ = false := by rw [hW]; simp [go_sem]
  have c2 : W.cell? ⟨w.heap.size + 1 + 1, 2, none⟩ = some (.slice none 0 0) := by rw [hW]; simp [go_sem]
  have z2 : W.cell? ⟨w.heap.size + 1, 2, none⟩ = some (.slice none 0 0) := by rw [hW]; simp [go_sem]
  have f2 : W.frozen? ⟨w.heap.size + 1 + 1, 2, none⟩ = false := by rw [hW]; simp [go_sem]
  have y2 : W.frozen? ⟨w.heap.size + 1, 2, none⟩ = false := by rw [hW]; simp [go_sem]
  have c3 : W.cell? ⟨w.heap.size + 1 + 1, 3, none⟩ = some (.slice none 0 0) := by rw [hW]; simp [go_sem]
  have z3 : W.cell? ⟨w.heap.size + 1, 3, none⟩ = some (.slice none 0 0) := by rw [hW]; simp [go_sem]
  have f3 : W.frozen? ⟨w.heap.size + 1 + 1, 3, none⟩ = false := by rw [hW]; simp [go_sem]
  have y3 : W.frozen? ⟨w.heap.size + 1, 3, none⟩ = false := by rw [hW]; simp [go_sem]
  rw [← hW]
  clear hW
  have q2 : w.heap.size + 1 + 1 < W.heap.size := by omega
  clear hsz
  refine (toTrmCellS_any xa xc a W h.la ((h.below hB0).ra)).mono ?_
  rintro e w1 ⟨rfl, ho1, hb1⟩
  have hg1 : W.heap.size < w1.heap.size := (ho1.lt _ rfl).2
  have q0 : w.heap.size < W.heap.size := by omega
  have q1 : w.heap.size + 1 < W.heap.size := by omega
  replace A2 := (hb1.cell (p := ⟨w.heap.size, 2, none⟩) q0).trans A2
  replace A3 := (hb1.cell (p := ⟨w.heap.size, 3, none⟩) q0).trans A3
  replace c0 := (hb1.cell (p := ⟨w.heap.size + 1 + 1, 0, none⟩) q2).trans c0
  replace z0 := (hb1.cell (p := ⟨w.heap.size + 1, 0, none⟩) q1).trans z0
  replace f0 := (hb1.frozen (p := ⟨w.heap.size + 1 + 1, 0, none⟩) q2).trans f0
  replace y0 := (hb1.frozen (p := ⟨w.heap.size + 1, 0, none⟩) q1).trans y0
  replace c1 := (hb1.cell (p := ⟨w.heap.size + 1 + 1, 1, none⟩) q2).trans c1
  replace z1 := (hb1.cell (p := ⟨w.heap.size + 1, 1, none⟩) q1).trans z1
  replace f1 := (hb1.frozen (p := ⟨w.heap.size + 1 + 1, 1, none⟩) q2).trans f1
  replace y1 := (hb1.frozen (p := ⟨w.heap.size + 1, 1, none⟩) q1).trans y1
  replace c2 := (hb1.cell (p := ⟨w.heap.size + 1 + 1, 2, none⟩) q2).trans c2
  replace z2 := (hb1.cell (p := ⟨w.heap.size + 1, 2, none⟩) q1).trans z2
  replace f2 := (hb1.frozen (p := ⟨w.heap.size + 1 + 1, 2, none⟩) q2).trans f2
  replace y2 := (hb1.frozen (p := ⟨w.heap.size + 1, 2, none⟩) q1).trans y2
  replace c3 := (hb1.cell (p := ⟨w.heap.size + 1 + 1, 3, none⟩) q2).trans c3
  replace z3 := (hb1.cell (p := ⟨w.heap.size + 1, 3, none⟩) q1).trans z3
  replace f3 := (hb1.frozen (p := ⟨w.heap.size + 1 + 1, 3, none⟩) q2).trans f3
  replace y3 := (hb1.frozen (p := ⟨w.heap.size + 1, 3, none⟩) q1).trans y3
  have hB1 := bstep hB0 hb1
  have hw1 : w.heap.size + 1 + 1 < w1.heap.size := by omega
  obtain ⟨g1, hg⟩ : ∃ g, g = W.heap.size := ⟨_, rfl⟩
  rw [← hg] at ho1 hg1 ⊢
  have hs1 : g1 < w1.heap.size := hg1
  have ho_1 : w.heap.size + 1 + 1 < g1 := by omega
  clear q0 q1 q2 hg1 hb1
  clear hg
  go_wp2_with fail
  obtain ⟨V1, hV⟩ : ∃ V, V = w1.setCell ⟨w.heap.size + 1 + 1, 1, none⟩ (.slice (some ⟨g1, 0, none⟩) a.length a.length) := ⟨_, rfl⟩
  rw [← hV]
  have hsz : V1.heap.size = w1.heap.size := by rw [hV]; simp
  replace A2 : V1.cell? ⟨w.heap.size, 2, none⟩ = some (.slice ya b.length yc) := by rw [hV]; simp [go_sem, A2]
  replace A3 : V1.cell? ⟨w.heap.size, 3, none⟩ = some (.slice za c.length zc) := by rw [hV]; simp [go_sem, A3]
  replace c0 : V1.cell? ⟨w.heap.size + 1 + 1, 0, none⟩ = some (.int .i64 v) := by rw [hV]; simp [go_sem, c0]
  replace z0 : V1.cell? ⟨w.heap.size + 1, 0, none⟩ = some (.int .i64 0) := by rw [hV]; simp [go_sem, z0]
  replace f0 : V1.frozen? ⟨w.heap.size + 1 + 1, 0, none⟩ = false := by rw [hV]; simp [go_sem, f0]
  replace y0 : V1.frozen? ⟨w.heap.size + 1, 0, none⟩ = false := by rw [hV]; simp [go_sem, y0]
  replace c1 : V1.cell? ⟨w.heap.size + 1 + 1, 1, none⟩ = some (.slice (some ⟨g1, 0, none⟩) a.length a.length) := by rw [hV]; simp [go_sem, c1, f1]
  replace z1 : V1.cell? ⟨w.heap.size + 1, 1, none⟩ = some (.slice none 0 0) := by rw [hV]; simp [go_sem, z1]
  replace f1 : V1.frozen? ⟨w.heap.size + 1 + 1, 1, none⟩ = false := by rw [hV]; simp [go_sem, f1]
  replace y1 : V1.frozen? ⟨w.heap.size + 1, 1, none⟩ = false := by rw [hV]; simp [go_sem, y1]
  replace c2 : V1.cell? ⟨w.heap.size + 1 + 1, 2, none⟩ = some (.slice none 0 0) := by rw [hV]; simp [go_sem, c2]
  replace z2 : V1.cell? ⟨w.heap.size + 1, 2, none⟩ = some (.slice none 0 0) := by rw [hV]; simp [go_sem, z2]
  replace f2 : V1.frozen? ⟨w.heap.size + 1 + 1, 2, none⟩ = false := by rw [hV]; simp [go_sem, f2]
  replace y2 : V1.frozen? ⟨w.heap.size + 1, 2, none⟩ = false := by rw [hV]; simp [go_sem, y2]
  replace c3 : V1.cell? ⟨w.heap.size + 1 + 1, 3, none⟩ = some (.slice none 0 0) := by rw [hV]; simp [go_sem, c3]
  replace z3 : V1.cell? ⟨w.heap.size + 1, 3, none⟩ = some (.slice none 0 0) := by rw [hV]; simp [go_sem, z3]
  replace f3 : V1.frozen? ⟨w.heap.size + 1 + 1, 3, none⟩ = false := by rw [hV]; simp [go_sem, f3]
  replace y3 : V1.frozen? ⟨w.heap.size + 1, 3, none⟩ = false := by rw [hV]; simp [go_sem, y3]
  replace hB1 : Below w.heap.size w V1 := by rw [hV]; exact hB1.setCell (p := ⟨w.heap.size + 1 + 1, 1, none⟩) (by simp; omega) _
  replace ho1 := own_block (w' := V1) ho1 (fun k e => by
    have e' : g1 = k := by simpa [Value.ownBlock] using e
    rw [hV, Below.heap_setCell _ _ _ _ (by simp; omega)])
  replace hs1 : g1 < V1.heap.size := by omega
  have q2 : w.heap.size + 1 + 1 < V1.heap.size := by omega
  clear hV hsz hw1
  refine (toTrmCellS_any ya yc b V1 h.lb ((h.below hB1).rb)).mono ?_
  rintro e w2 ⟨rfl, ho2, hb2⟩
  have hg2 : V1.heap.size < w2.heap.size := (ho2.lt _ rfl).2
  have q0 : w.heap.size < V1.heap.size := by omega
  have q1 : w.heap.size + 1 < V1.heap.size := by omega
  replace A3 := (hb2.cell (p := ⟨w.heap.size, 3, none⟩) q0).trans A3
  replace c0 := (hb2.cell (p := ⟨w.heap.size + 1 + 1, 0, none⟩) q2).trans c0
  replace z0 := (hb2.cell (p := ⟨w.heap.size + 1, 0, none⟩) q1).trans z0
  replace f0 := (hb2.frozen (p := ⟨w.heap.size + 1 + 1, 0, none⟩) q2).trans f0
  replace y0 := (hb2.frozen (p := ⟨w.heap.size + 1, 0, none⟩) q1).trans y0
  replace c1 := (hb2.cell (p := ⟨w.heap.size + 1 + 1, 1, none⟩) q2).trans c1
  replace z1 := (hb2.cell (p := ⟨w.heap.size + 1, 1, none⟩) q1).trans z1
  replace f1 := (hb2.frozen (p := ⟨w.heap.size + 1 + 1, 1, none⟩) q2).trans f1
  replace y1 := (hb2.frozen (p := ⟨w.heap.size + 1, 1, none⟩) q1).trans y1
  replace c2 := (hb2.cell (p := ⟨w.heap.size + 1 + 1, 2, none⟩) q2).trans c2
  replace z2 := (hb2.cell (p := ⟨w.heap.size + 1, 2, none⟩) q1).trans z2
  replace f2 := (hb2.frozen (p := ⟨w.heap.size + 1 + 1, 2, none⟩) q2).trans f2
  replace y2 := (hb2.frozen (p := ⟨w.heap.size + 1, 2, none⟩) q1).trans y2
  replace c3 := (hb2.cell (p := ⟨w.heap.size + 1 + 1, 3, none⟩) q2).trans c3
  replace z3 := (hb2.cell (p := ⟨w.heap.size + 1, 3, none⟩) q1).trans z3
  replace f3 := (hb2.frozen (p := ⟨w.heap.size + 1 + 1, 3, none⟩) q2).trans f3
  replace y3 := (hb2.frozen (p := ⟨w.heap.size + 1, 3, none⟩) q1).trans y3
  replace ho1 := own_below ho1 hb2
  replace hs1 : g1 < w2.heap.size := by omega
  have hB2 := bstep hB1 hb2
  have hw2 : w.heap.size + 1 + 1 < w2.heap.size := by omega
  obtain ⟨g2, hg⟩ : ∃ g, g = V1.heap.size := ⟨_, rfl⟩
  rw [← hg] at ho2 hg2 ⊢
  have hs2 : g2 < w2.heap.size := hg2
  have ho_2 : w.heap.size + 1 + 1 < g2 := by omega
  clear q0 q1 q2 hg2 hb2
  clear hg
  go_wp2_with fail
  obtain ⟨V2, hV⟩ : ∃ V, V = w2.setCell ⟨w.heap.size + 1 + 1, 2, none⟩ (.slice (some ⟨g2, 0, none⟩) b.length b.length) := ⟨_, rfl⟩
  rw [← hV]
  have hsz : V2.heap.size = w2.heap.size := by rw [hV]; simp
  replace A3 : V2.cell? ⟨w.heap.size, 3, none⟩ = some (.slice za c.length zc) := by rw [hV]; simp [go_sem, A3]
  replace c0 : V2.cell? ⟨w.heap.size + 1 + 1, 0, none⟩ = some (.int .i64 v) := by rw [hV]; simp [go_sem, c0]
  replace z0 : V2.cell? ⟨w.heap.size + 1, 0, none⟩ = some (.int .i64 0) := by rw [hV]; simp [go_sem, z0]
  replace f0 : V2.frozen? ⟨w.heap.size + 1 + 1, 0, none⟩ = false := by rw [hV]; simp [go_sem, f0]
  replace y0 : V2.frozen? ⟨w.heap.size + 1, 0, none⟩ = false := by rw [hV]; simp [go_sem, y0]
  replace c1 : V2.cell? ⟨w.heap.size + 1 + 1, 1, none⟩ = some (.slice (some ⟨g1, 0, none⟩) a.length a.length) := by rw [hV]; simp [go_sem, c1]
  replace z1 : V2.cell? ⟨w.heap.size + 1, 1, none⟩ = some (.slice none 0 0) := by rw [hV]; simp [go_sem, z1]
  replace f1 : V2.frozen? ⟨w.heap.size + 1 + 1, 1, none⟩ = false := by rw [hV]; simp [go_sem, f1]
  replace y1 : V2.frozen? ⟨w.heap.size + 1, 1, none⟩ = false := by rw [hV]; simp [go_sem, y1]
  replace c2 : V2.cell? ⟨w.heap.size + 1 + 1, 2, none⟩ = some (.slice (some ⟨g2, 0, none⟩) b.length b.length) := by rw [hV]; simp [go_sem, c2, f2]
  replace z2 : V2.cell? ⟨w.heap.size + 1, 2, none⟩ = some (.slice none 0 0) := by rw [hV]; simp [go_sem, z2]
  replace f2 : V2.frozen? ⟨w.heap.size + 1 + 1, 2, none⟩ = false := by rw [hV]; simp [go_sem, f2]
  replace y2 : V2.frozen? ⟨w.heap.size + 1, 2, none⟩ = false := by rw [hV]; simp [go_sem, y2]
  replace c3 : V2.cell? ⟨w.heap.size + 1 + 1, 3, none⟩ = some (.slice none 0 0) := by rw [hV]; simp [go_sem, c3]
  replace z3 : V2.cell? ⟨w.heap.size + 1, 3, none⟩ = some (.slice none 0 0) := by rw [hV]; simp [go_sem, z3]
  replace f3 : V2.frozen? ⟨w.heap.size + 1 + 1, 3, none⟩ = false := by rw [hV]; simp [go_sem, f3]
  replace y3 : V2.frozen? ⟨w.heap.size + 1, 3, none⟩ = false := by rw [hV]; simp [go_sem, y3]
  replace hB2 : Below w.heap.size w V2 := by rw [hV]; exact hB2.setCell (p := ⟨w.heap.size + 1 + 1, 2, none⟩) (by simp; omega) _
  replace ho1 := own_block (w' := V2) ho1 (fun k e => by
    have e' : g1 = k := by simpa [Value.ownBlock] using e
    rw [hV, Below.heap_setCell _ _ _ _ (by simp; omega)])
  replace hs1 : g1 < V2.heap.size := by omega
  replace ho2 := own_block (w' := V2) ho2 (fun k e => by
    have e' : g2 = k := by simpa [Value.ownBlock] using e
    rw [hV, Below.heap_setCell _ _ _ _ (by simp; omega)])
  replace hs2 : g2 < V2.heap.size := by omega
  have q2 : w.heap.size + 1 + 1 < V2.heap.size := by omega
  clear hV hsz hw2
  refine (toTrmCellS_any za zc c V2 h.lc ((h.below hB2).rc)).mono ?_
  rintro e w3 ⟨rfl, ho3, hb3⟩
  have hg3 : V2.heap.size < w3.heap.size := (ho3.lt _ rfl).2
  have q0 : w.heap.size < V2.heap.size := by omega
  have q1 : w.heap.size + 1 < V2.heap.size := by omega
  replace c0 := (hb3.cell (p := ⟨w.heap.size + 1 + 1, 0, none⟩) q2).trans c0
  replace z0 := (hb3.cell (p := ⟨w.heap.size + 1, 0, none⟩) q1).trans z0
  replace f0 := (hb3.frozen (p := ⟨w.heap.size + 1 + 1, 0, none⟩) q2).trans f0
  replace y0 := (hb3.frozen (p := ⟨w.heap.size + 1, 0, none⟩) q1).trans y0
  replace c1 := (hb3.cell (p := ⟨w.heap.size + 1 + 1, 1, none⟩) q2).trans c1
  replace z1 := (hb3.cell (p := ⟨w.heap.size + 1, 1, none⟩) q1).trans z1
  replace f1 := (hb3.frozen (p := ⟨w.heap.size + 1 + 1, 1, none⟩) q2).trans f1
  replace y1 := (hb3.frozen (p := ⟨w.heap.size + 1, 1, none⟩) q1).trans y1
  replace c2 := (hb3.cell (p := ⟨w.heap.size + 1 + 1, 2, none⟩) q2).trans c2
  replace z2 := (hb3.cell (p := ⟨w.heap.size + 1, 2, none⟩) q1).trans z2
  replace f2 := (hb3.frozen (p := ⟨w.heap.size + 1 + 1, 2, none⟩) q2).trans f2
  replace y2 := (hb3.frozen (p := ⟨w.heap.size + 1, 2, none⟩) q1).trans y2
  replace c3 := (hb3.cell (p := ⟨w.heap.size + 1 + 1, 3, none⟩) q2).trans c3
  replace z3 := (hb3.cell (p := ⟨w.heap.size + 1, 3, none⟩) q1).trans z3
  replace f3 := (hb3.frozen (p := ⟨w.heap.size + 1 + 1, 3, none⟩) q2).trans f3
  replace y3 := (hb3.frozen (p := ⟨w.heap.size + 1, 3, none⟩) q1).trans y3
  replace ho1 := own_below ho1 hb3
  replace hs1 : g1 < w3.heap.size := by omega
  replace ho2 := own_below ho2 hb3
  replace hs2 : g2 < w3.heap.size := by omega
  have hB3 := bstep hB2 hb3
  have hw3 : w.heap.size + 1 + 1 < w3.heap.size := by omega
  obtain ⟨g3, hg⟩ : ∃ g, g = V2.heap.size := ⟨_, rfl⟩
  rw [← hg] at ho3 hg3 ⊢
  have hs3 : g3 < w3.heap.size := hg3
  have ho_3 : w.heap.size + 1 + 1 < g3 := by omega
  clear q0 q1 q2 hg3 hb3
  clear hg
  go_wp2
  refine bodyPost_ret (v := .agg #[.int .i64 v, .slice (some ⟨g1, 0, none⟩) a.length a.length, .slice (some ⟨g2, 0, none⟩) b.length b.length, .slice (some ⟨g3, 0, none⟩) c.length c.length]) (by simp [results, Try.results167, go_sem, *]) rfl ⟨g1, g2, g3, rfl, ?_, ?_⟩
  · exact ⟨row_of_own (own_block ho1 (fun k e => by
      have e' : g1 = k := by simpa [Value.ownBlock] using e
      rw [Below.heap_setCell _ _ _ _ (by simp; omega), Below.heap_setCell _ _ _ _ (by simp; omega), Below.heap_setCell _ _ _ _ (by simp; omega), Below.heap_setCell _ _ _ _ (by simp; omega), Below.heap_setCell _ _ _ _ (by simp; omega)])),
      row_of_own (own_block ho2 (fun k e => by
      have e' : g2 = k := by simpa [Value.ownBlock] using e
      rw [Below.heap_setCell _ _ _ _ (by simp; omega), Below.heap_setCell _ _ _ _ (by simp; omega), Below.heap_setCell _ _ _ _ (by simp; omega), Below.heap_setCell _ _ _ _ (by simp; omega), Below.heap_setCell _ _ _ _ (by simp; omega)])),
      row_of_own (own_block ho3 (fun k e => by
      have e' : g3 = k := by simpa [Value.ownBlock] using e
      rw [Below.heap_setCell _ _ _ _ (by simp; omega), Below.heap_setCell _ _ _ _ (by simp; omega), Below.heap_setCell _ _ _ _ (by simp; omega), Below.heap_setCell _ _ _ _ (by simp; omega), Below.heap_setCell _ _ _ _ (by simp; omega)])), h.fa, h.fb, h.fc, h.la, h.lb, h.lc⟩
  · exact ((((hB3.setCell (p := ⟨w.heap.size + 1 + 1, 3, none⟩) (by simp; omega) _).setCell (p := ⟨w.heap.size + 1, 0, none⟩) (by simp) _).setCell (p := ⟨w.heap.size + 1, 1, none⟩) (by simp) _).setCell (p := ⟨w.heap.size + 1, 2, none⟩) (by simp) _).setCell (p := ⟨w.heap.size + 1, 3, none⟩) (by simp) _

end Go.Proofs.Ytkedckmpjedjoaa
