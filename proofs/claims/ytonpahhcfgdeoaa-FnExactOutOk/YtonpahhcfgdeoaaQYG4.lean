/- The walk of FnExactMsgOk. -/
import Derived.Test.YtonpahhcfgdeoaaQYG3Open2YM
import Derived.Deep.RegionHeld3
namespace Go.Proofs.Ytonpahhcfgdeoaa
open Go.RowKit
set_option linter.unusedVariables false
set_option linter.unusedSimpArgs false

theorem row_canB (t u : List C) : ∃ r, CanB t u r := canB_all t u

set_option maxRecDepth 100000 in
set_option maxHeartbeats 4000000 in
theorem FnExactMsgOk_walk (k f n st : Int) (xa ya : Option Addr) (xc yc : Nat) (t u : List C) (w : World) (hm : t.length ≤ maxLen) (um : u.length ≤ maxLen) (hA : Row w xa t) (uA : Row w ya u) (hF : Fit t) (uF : Fit u) (hw : WfC t) (uw : WfC u) :
    Calls Try.prog 4 #[.agg #[.int .i64 k, .int .i64 f, .slice xa t.length xc, .int .i64 n, .int .i64 st, .slice ya u.length yc]] w fun e w' => e = .returned (.bool true) ∧ Below w.heap.size w w' := by
  obtain ⟨r, hr⟩ := canB_all t u
  have HR := hide hr
  clear hr
  obtain ⟨W, hW⟩ : ∃ W, W = w.alloc (Obj.cells #[Value.int IntKind.i64 k, Value.int IntKind.i64 f, Value.slice xa t.length xc, Value.int IntKind.i64 n, Value.int IntKind.i64 st, Value.slice ya u.length yc] 37) := ⟨_, rfl⟩
  have hB0 : Below w.heap.size w W := by rw [hW]; exact cell_below _ _
  have hX : W.heap[w.heap.size]? = some (.cells #[Value.int IntKind.i64 k, Value.int IntKind.i64 f, Value.slice xa t.length xc, Value.int IntKind.i64 n, Value.int IntKind.i64 st, Value.slice ya u.length yc] 37 (0, 0)) := by
    rw [hW]
    exact heap_alloc_new w _
  have HSZ := hide (szMsgMsg_any k f n st xa ya xc yc t u 1048576 W hm um (hA.below hB0) (uA.below hB0) hF uF (by omega) (by omega))
  unfold mV at HSZ
  go_enter Try.func4, Try.ntmps4
  go_wp2_with fail
  rw [← hW]
  clear hW
  refine (unhide HSZ).mono ?_
  rintro e w1 ⟨r1, rfl, hr1, hb1⟩
  have hB1 := bstep hB0 hb1
  replace hX := blk_below hX hb1
  clear HSZ hB0 hb1
  by_cases hr0 : r1 < 0
  · go_wp2
    go_ret
    exact ⟨rfl, hB1⟩
  have tl : t.length ≤ 1048576 := by omega
  have ul : u.length ≤ 1048576 := by omega
  clear hr1
  have HT := hide (fun (W : World) (hW : Below w.heap.size w W) => toMsgMsg_any k f n st xa ya xc yc t u W tl ul (hA.below hW) (uA.below hW))
  have HO1 := hide (fun (W : World) (base g : Nat) (h : W.ownsRow base 67 3 (.slice (some ⟨g, 0, none⟩) t.length t.length) t.length (flat t)) => out_own h hF hw tl)
  have HO2 := hide (fun (W : World) (base g : Nat) (h : W.ownsRow base 67 3 (.slice (some ⟨g, 0, none⟩) u.length u.length) u.length (flat u)) => out_own h uF uw ul)
  have HS := hide (fun (W : World) (b1 b2 g1 g2 : Nat) (h1 : W.ownsRow b1 67 3 (.slice (some ⟨g1, 0, none⟩) t.length t.length) t.length (flat t)) (h2 : W.ownsRow b2 67 3 (.slice (some ⟨g2, 0, none⟩) u.length u.length) u.length (flat u)) => specMsgOk_any k f n st (some ⟨g1, 0, none⟩) (some ⟨g2, 0, none⟩) t.length u.length t u r W (unhide HO1 W _ _ h1) (unhide HO2 W _ _ h2) (fun W' hW' hu => out_td (own_below h2 hW') hu) (unhide HR))
  have HI := hide (fun (W : World) (b1 b2 g1 g2 : Nat) (h1 : W.ownsRow b1 67 3 (.slice (some ⟨g1, 0, none⟩) t.length t.length) t.length (flat t)) (h2 : W.ownsRow b2 67 3 (.slice (some ⟨g2, 0, none⟩) u.length u.length) u.length (flat u)) => implMsgOk_any k f n st (some ⟨g1, 0, none⟩) (some ⟨g2, 0, none⟩) t.length u.length t u r W (unhide HO1 W _ _ h1) (unhide HO2 W _ _ h2) (unhide HR))
  have HE := hide (fun (W : World) (b1 b2 b3 b4 g1 g2 g3 g4 : Nat) (h1 : W.ownsRow b1 67 3 (.slice (some ⟨g1, 0, none⟩) t.length t.length) t.length (flat t)) (h2 : W.ownsRow b2 67 3 (.slice (some ⟨g2, 0, none⟩) u.length u.length) u.length (flat u)) (h3 : W.ownsRow b3 67 3 (.slice (some ⟨g3, 0, none⟩) t.length t.length) t.length (flat t)) (h4 : W.ownsRow b4 67 3 (.slice (some ⟨g4, 0, none⟩) u.length u.length) u.length (flat u)) => eqMsgMsg_yes k f n st (some ⟨g1, 0, none⟩) (some ⟨g2, 0, none⟩) (some ⟨g3, 0, none⟩) (some ⟨g4, 0, none⟩) t.length u.length t.length u.length t u W tl ul (row_of_own h1) (row_of_own h2) (row_of_own h3) (row_of_own h4))
  obtain ⟨B, hBe⟩ : ∃ B, B = msgB k f n st t u r := ⟨_, rfl⟩
  rw [← hBe] at HS HI
  unfold mV at HT HS HI HE
  clear hA uA hF uF hw uw hm um HR HO1 HO2 hBe
  have HX1 := hide hX
  obtain ⟨x0, x1, x2, x3, x4, x5⟩ := six_cells hX
  clear hX
  -- the first copy, and the specification's answer
  go_wp2_with fail
  refine (unhide HT w1 hB1).mono ?_
  rintro e w2 ⟨g1, g2, rfl, _, o1, o2, hb2⟩
  have hB2 := bstep hB1 hb2
  have hX2 := blk_below (unhide HX1) hb2
  have H2 := hide (unhide HS w2 _ _ _ _ o1 o2)
  clear x0 x1 x2 x3 x4 x5 HX1 o1 o2
  go_wp2_with fail
  refine (unhide H2).mono ?_
  rintro e w3 ⟨rfl, hb3⟩
  have hB3 := bstep hB2 hb3
  have hX3 := blk_below hX2 hb3
  have HX3 := hide hX3
  obtain ⟨x0, x1, x2, x3, x4, x5⟩ := six_cells hX3
  clear H2 hX2 hX3
  -- the second copy, and the program's answer
  go_wp2_with fail
  refine (unhide HT w3 hB3).mono ?_
  rintro e w4 ⟨g3, g4, rfl, _, o3, o4, hb4⟩
  have hB4 := bstep hB3 hb4
  have hX4 := blk_below (unhide HX3) hb4
  clear x0 x1 x2 x3 x4 x5 HX3
  go_wp2_with fail
  obtain ⟨V, hV⟩ : ∃ V, V = w4.alloc (Obj.cells #[Value.int IntKind.i64 k, Value.int IntKind.i64 f, Value.slice (some ⟨g3, 0, none⟩) t.length t.length, Value.int IntKind.i64 n, Value.int IntKind.i64 st, Value.slice (some ⟨g4, 0, none⟩) u.length u.length] 41) := ⟨_, rfl⟩
  have hbV : Below w4.heap.size w4 V := by rw [hV]; exact cell_below _ _
  have hY : V.heap[w4.heap.size]? = some (.cells #[Value.int IntKind.i64 k, Value.int IntKind.i64 f, Value.slice (some ⟨g3, 0, none⟩) t.length t.length, Value.int IntKind.i64 n, Value.int IntKind.i64 st, Value.slice (some ⟨g4, 0, none⟩) u.length u.length] 41 (0, 0)) := by
    rw [hV]
    exact heap_alloc_new w4 _
  rw [← hV]
  have hB5 := bstep hB4 hbV
  have hX5 := blk_below hX4 hbV
  have o5 := own_below o3 hbV
  have o6 := own_below o4 hbV
  clear hV hX4 hB4 hbV o3 o4
  generalize w4.heap.size = Q at hY ⊢
  have H5 := hide (unhide HI V _ _ _ _ o5 o6)
  refine (unhide H5).mono ?_
  rintro e w6 ⟨rfl, hb6⟩
  have hB6 := bstep hB5 hb6
  have hX6 := blk_below hX5 hb6
  have hY6 := blk_below hY hb6
  have o7 := own_below o5 hb6
  have o8 := own_below o6 hb6
  have hBB : (B != B) = false := by simp
  obtain ⟨x0, x1, x2, x3, x4, x5⟩ := six_cells hX6
  obtain ⟨y0, y1, y2, y3, y4, y5⟩ := six_cells hY6
  have hlx := blk_lt hX6
  have hly := blk_lt hY6
  clear H5 hX5 hY o5 o6 HS HI hX6 hY6 hB5 hb6
  go_wp2_with fail
  have hB6d := hB6.drew
  go_region_held3 (fun w' => (w'.cell? ⟨w.heap.size, 0, none⟩ = some (.int .i64 k) ∧ w'.cell? ⟨w.heap.size, 1, none⟩ = some (.int .i64 f) ∧ w'.cell? ⟨w.heap.size, 2, none⟩ = some (.slice xa t.length xc) ∧ w'.cell? ⟨w.heap.size, 3, none⟩ = some (.int .i64 n) ∧ w'.cell? ⟨w.heap.size, 4, none⟩ = some (.int .i64 st) ∧ w'.cell? ⟨w.heap.size, 5, none⟩ = some (.slice ya u.length yc)) ∧ w'.cell? ⟨Q, 0, none⟩ = some (.int .i64 k) ∧ w'.cell? ⟨Q, 1, none⟩ = some (.int .i64 f) ∧ w'.cell? ⟨Q, 2, none⟩ = some (.slice (some ⟨g3, 0, none⟩) t.length t.length) ∧ w'.cell? ⟨Q, 3, none⟩ = some (.int .i64 n) ∧ w'.cell? ⟨Q, 4, none⟩ = some (.int .i64 st) ∧ w'.cell? ⟨Q, 5, none⟩ = some (.slice (some ⟨g4, 0, none⟩) u.length u.length)) (first | (refine ⟨⟨?_, ?_, ?_, ?_, ?_, ?_⟩, ?_, ?_, ?_, ?_, ?_, ?_⟩ <;> assumption) | go_keep) (first
    | (go_at_call 19; have hx := hb7; refine (unhide HE w7 _ _ _ _ _ _ _ _ (own_below (World.ownsRow.drew o7) hb7) (own_below (World.ownsRow.drew o8) hb7) p1 p2).mono ?_; rintro e w8 ⟨rfl, hb8⟩; have n0 := (hb8.cell (p := ⟨w.heap.size, 0, none⟩) hlx7).trans m0; have n1 := (hb8.cell (p := ⟨w.heap.size, 1, none⟩) hlx7).trans m1; have n2 := (hb8.cell (p := ⟨w.heap.size, 2, none⟩) hlx7).trans m2; have n3 := (hb8.cell (p := ⟨w.heap.size, 3, none⟩) hlx7).trans m3; have n4 := (hb8.cell (p := ⟨w.heap.size, 4, none⟩) hlx7).trans m4; have n5 := (hb8.cell (p := ⟨w.heap.size, 5, none⟩) hlx7).trans m5; have q0 := (hb8.cell (p := ⟨Q, 0, none⟩) hly7).trans z0; have q1 := (hb8.cell (p := ⟨Q, 1, none⟩) hly7).trans z1; have q2 := (hb8.cell (p := ⟨Q, 2, none⟩) hly7).trans z2; have q3 := (hb8.cell (p := ⟨Q, 3, none⟩) hly7).trans z3; have q4 := (hb8.cell (p := ⟨Q, 4, none⟩) hly7).trans z4; have q5 := (hb8.cell (p := ⟨Q, 5, none⟩) hly7).trans z5)
    | (go_at_call 17; refine (unhide HT w6.drew hB6d).mono ?_; rintro e w7 ⟨g5, g6, rfl, _, p1, p2, hb7⟩; have m0 := (hb7.cell (p := ⟨w.heap.size, 0, none⟩) hlx).trans x0; have m1 := (hb7.cell (p := ⟨w.heap.size, 1, none⟩) hlx).trans x1; have m2 := (hb7.cell (p := ⟨w.heap.size, 2, none⟩) hlx).trans x2; have m3 := (hb7.cell (p := ⟨w.heap.size, 3, none⟩) hlx).trans x3; have m4 := (hb7.cell (p := ⟨w.heap.size, 4, none⟩) hlx).trans x4; have m5 := (hb7.cell (p := ⟨w.heap.size, 5, none⟩) hlx).trans x5; have z0 := (hb7.cell (p := ⟨Q, 0, none⟩) hly).trans y0; have z1 := (hb7.cell (p := ⟨Q, 1, none⟩) hly).trans y1; have z2 := (hb7.cell (p := ⟨Q, 2, none⟩) hly).trans y2; have z3 := (hb7.cell (p := ⟨Q, 3, none⟩) hly).trans y3; have z4 := (hb7.cell (p := ⟨Q, 4, none⟩) hly).trans y4; have z5 := (hb7.cell (p := ⟨Q, 5, none⟩) hly).trans y5; have hlx7 : w.heap.size < w7.heap.size := World.block_lt_of_cell? w7 ⟨_, _, none⟩ m0; have hly7 : Q < w7.heap.size := World.block_lt_of_cell? w7 ⟨_, _, none⟩ z0))
  go_wp2
  go_ret
  exact ⟨rfl, bstep (bstep hB6d hb7) hb8⟩
end Go.Proofs.Ytonpahhcfgdeoaa
