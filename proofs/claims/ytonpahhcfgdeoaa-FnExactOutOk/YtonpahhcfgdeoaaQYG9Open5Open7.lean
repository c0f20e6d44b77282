import Derived.Test.YtonpahhcfgdeoaaQYG7YX1W14YB5YG8
import Derived.Test.YtonpahhcfgdeoaaQYG4
import Derived.Test.YtonpahhcfgdeoaaQOpenW12PB5
import Derived.ChangeSame
/- The walk of FnExactMsgBytes. -/
namespace Go.Proofs.Ytonpahhcfgdeoaa
open Go.RowKit
set_option linter.unusedVariables false
set_option linter.unusedSimpArgs false

set_option maxRecDepth 100000 in
set_option maxHeartbeats 8000000 in
theorem FnExactMsgBytes_walk (k f n st : Int) (xa ya : Option Addr) (xc yc : Nat) (t u : List C) (w : World) (hm : t.length ≤ maxLen) (um : u.length ≤ maxLen) (hA : Row w xa t) (uA : Row w ya u) (hF : Fit t) (uF : Fit u) (hw : WfC t) (uw : WfC u) :
    Calls Try.prog 5 #[.agg #[.int .i64 k, .int .i64 f, .slice xa t.length xc, .int .i64 n, .int .i64 st, .slice ya u.length yc]] w fun e w' => e = .returned (.bool true) ∧ Below w.heap.size w w' := by
  obtain ⟨r, hr⟩ := canB_all t u
  have HR := hide hr
  clear hr
  obtain ⟨W, hW⟩ : ∃ W, W = w.alloc (Obj.cells #[Value.int IntKind.i64 k, Value.int IntKind.i64 f, Value.slice xa t.length xc, Value.int IntKind.i64 n, Value.int IntKind.i64 st, Value.slice ya u.length yc] 37) := ⟨_, rfl⟩
  have hB0 : Below w.heap.size w W := by rw [hW]; exact cell_below _ _
  have hX : W.heap[w.heap.size]? = some (.cells #[Value.int IntKind.i64 k, Value.int IntKind.i64 f, Value.slice xa t.length xc, Value.int IntKind.i64 n, Value.int IntKind.i64 st, Value.slice ya u.length yc] 37 (0, 0)) := by
    rw [hW]
    exact heap_alloc_new w _
  have HSZ := hide (szMsgMsg_any k f n st xa ya xc yc t u 1048576 W hm um (hA.below hB0) (uA.below hB0) hF uF (by omega) (by omega))
  unfold mV at HSZ
  go_enter Try.func5, Try.ntmps5
  go_wp2_with fail
  rw [← hW]
  clear hW
  refine (unhide HSZ).mono ?_
  rintro e w1 ⟨r1, rfl, hr1, hb1⟩
  have hB1 := bstep hB0 hb1
  replace hX := blk_below hX hb1
  clear HSZ hB0 hb1
  by_cases hr0 : r1 < 0
  · go_wp2
    go_ret
    exact ⟨rfl, hB1⟩
  have hlen : t.length + u.length ≤ 1048576 := by omega
  have tl : t.length ≤ 1048576 := by omega
  have ul : u.length ≤ 1048576 := by omega
  clear hr1
  have HT := hide (fun (W : World) (hW : Below w.heap.size w W) => toMsgMsg_any k f n st xa ya xc yc t u W tl ul (hA.below hW) (uA.below hW))
  have HO1 := hide (fun (W : World) (base g : Nat) (h : W.ownsRow base 67 3 (.slice (some ⟨g, 0, none⟩) t.length t.length) t.length (flat t)) => out_own h hF hw tl)
  have HO2 := hide (fun (W : World) (base g : Nat) (h : W.ownsRow base 67 3 (.slice (some ⟨g, 0, none⟩) u.length u.length) u.length (flat u)) => out_own h uF uw ul)
  have HS := hide (fun (W : World) (b1 b2 g1 g2 : Nat) (h1 : W.ownsRow b1 67 3 (.slice (some ⟨g1, 0, none⟩) t.length t.length) t.length (flat t)) (h2 : W.ownsRow b2 67 3 (.slice (some ⟨g2, 0, none⟩) u.length u.length) u.length (flat u)) => specMsgBytes_any k f n st (some ⟨g1, 0, none⟩) (some ⟨g2, 0, none⟩) t.length u.length t u r W (unhide HO1 W _ _ h1) (unhide HO2 W _ _ h2) (fun W' hW' hu => out_td (own_below h2 hW') hu) (unhide HR))
  have HI := hide (fun (W : World) (b1 b2 g1 g2 : Nat) (h1 : W.ownsRow b1 67 3 (.slice (some ⟨g1, 0, none⟩) t.length t.length) t.length (flat t)) (h2 : W.ownsRow b2 67 3 (.slice (some ⟨g2, 0, none⟩) u.length u.length) u.length (flat u)) => implMsgBytes_any k f n st (some ⟨g1, 0, none⟩) (some ⟨g2, 0, none⟩) t.length u.length t u r W (unhide HO1 W _ _ h1) (unhide HO2 W _ _ h2) (unhide HR))
  have HE := hide (fun (W : World) (b1 b2 b3 b4 g1 g2 g3 g4 : Nat) (h1 : W.ownsRow b1 67 3 (.slice (some ⟨g1, 0, none⟩) t.length t.length) t.length (flat t)) (h2 : W.ownsRow b2 67 3 (.slice (some ⟨g2, 0, none⟩) u.length u.length) u.length (flat u)) (h3 : W.ownsRow b3 67 3 (.slice (some ⟨g3, 0, none⟩) t.length t.length) t.length (flat t)) (h4 : W.ownsRow b4 67 3 (.slice (some ⟨g4, 0, none⟩) u.length u.length) u.length (flat u)) => eqMsgMsg_yes k f n st (some ⟨g1, 0, none⟩) (some ⟨g2, 0, none⟩) (some ⟨g3, 0, none⟩) (some ⟨g4, 0, none⟩) t.length u.length t.length u.length t u W tl ul (row_of_own h1) (row_of_own h2) (row_of_own h3) (row_of_own h4))
  have HMK := hide (fun (W : World) (b1 b2 g1 g2 : Nat) (h1 : OwnC W b1 (.slice (some ⟨g1, 0, none⟩) t.length t.length) t) (h2 : OwnC W b2 (.slice (some ⟨g2, 0, none⟩) u.length u.length) u) (h12 : g1 ≠ g2) => markMsgMsg_any k f n st g1 g2 t.length u.length t u b1 b2 W hlen h1 h2 h12)
  have hzl := msgL_len k f n st t u r
  obtain ⟨z, hz⟩ : ∃ z, z = msgL k f n st t u r := ⟨_, rfl⟩
  rw [← hz] at HS HI hzl
  have hzm : z.length ≤ maxLen := by unfold maxLen; omega
  unfold mV at HT HS HI HE HMK
  clear hA uA hF uF hw uw hm um HR HO1 HO2 hz
  have HX1 := hide hX
  obtain ⟨x0, x1, x2, x3, x4, x5⟩ := six_cells (hX)
  clear hX
  -- the first copy, and the specification's answer
  go_wp2_with fail
  refine (unhide HT w1 hB1).mono ?_
  rintro e w2 ⟨g1, g2, rfl, _, o1, o2, hb2⟩
  have hB2 := bstep hB1 hb2
  have hX2 := blk_below (unhide HX1) hb2
  have H2 := hide (unhide HS w2 _ _ _ _ o1 o2)
  clear x0 x1 x2 x3 x4 x5
  clear HX1 o1 o2
  go_wp2_with fail
  refine (unhide H2).mono ?_
  rintro e w3 ⟨v0, rfl, hv0, hb3⟩
  have hB3 := bstep hB2 hb3
  have hX3 := blk_below hX2 hb3
  have hwlt := blk_lt hX3
  have HX3 := hide hX3
  obtain ⟨ao0, cap0, rfl, _⟩ := hv0.shape
  obtain ⟨x0, x1, x2, x3, x4, x5⟩ := six_cells (hX3)
  clear H2 hX2 hX3
  have hC3 : Below w3.heap.size w3 w3 := Below.refl _ _
  -- the second copy, and the program's answer
  go_wp2_with fail
  refine (unhide HT w3 hB3).mono ?_
  rintro e w4 ⟨g3, g4, rfl, h34, o3, o4, hb4⟩
  have hB4 := bstep hB3 hb4
  have hX4 := blk_below (unhide HX3) hb4
  clear x0 x1 x2 x3 x4 x5
  clear HX3
  go_wp2_with fail
  obtain ⟨V, hV⟩ : ∃ V, V = w4.alloc (Obj.cells #[Value.int IntKind.i64 k, Value.int IntKind.i64 f, Value.slice (some ⟨g3, 0, none⟩) t.length t.length, Value.int IntKind.i64 n, Value.int IntKind.i64 st, Value.slice (some ⟨g4, 0, none⟩) u.length u.length] 41) := ⟨_, rfl⟩
  have hbV : Below w4.heap.size w4 V := by rw [hV]; exact cell_below _ _
  have hY : V.heap[w4.heap.size]? = some (.cells #[Value.int IntKind.i64 k, Value.int IntKind.i64 f, Value.slice (some ⟨g3, 0, none⟩) t.length t.length, Value.int IntKind.i64 n, Value.int IntKind.i64 st, Value.slice (some ⟨g4, 0, none⟩) u.length u.length] 41 (0, 0)) := by
    rw [hV]
    exact heap_alloc_new w4 _
  rw [← hV]
  have hB5 := bstep hB4 hbV
  have hC5 := bstep hb4 hbV
  have hX5 := blk_below hX4 hbV
  have o5 := own_below o3 hbV
  have o6 := own_below o4 hbV
  have hg3 : g3 < w4.heap.size := (World.ownsRow.lt o3 g3 rfl).2
  have hg4 : g4 < w4.heap.size := (World.ownsRow.lt o4 g4 rfl).2
  have hg3' : w3.heap.size ≤ g3 := (World.ownsRow.lt o3 g3 rfl).1
  have hg4' : w3.heap.size ≤ g4 := (World.ownsRow.lt o4 g4 rfl).1
  have hQV : w4.heap.size < V.heap.size := blk_lt hY
  clear hV hX4 hB4 hbV o3 o4
  generalize w4.heap.size = Q at hY hg3 hg4 hQV ⊢
  have H5 := hide (unhide HI V _ _ _ _ o5 o6)
  refine (unhide H5).mono ?_
  rintro e w5 ⟨v1, rfl, hv1, hb5⟩
  have hB6 := bstep hB5 hb5
  have hC6 := bstep hC5 hb5
  have hX6 := blk_below hX5 hb5
  have hY6 := blk_below hY hb5
  have o7 := own_below o5 hb5
  have o8 := own_below o6 hb5
  obtain ⟨ao1, cap1, rfl, _⟩ := hv1.shape
  have HXY := hide (And.intro hX6 hY6)
  clear H5 hX5 hY o5 o6 hX6 hY6 hB5 hC5
  go_wp2_with fail
  refine (eqByteS_any _ _ _ _ z z w5 hzm hv1.row (hv0.below hC6).row).mono ?_
  rw [decide_eq_yes rfl]
  rintro e w6 ⟨rfl, hb6⟩
  have hB7 := bstep hB6 hb6
  have hC7 := bstep hC6 hb6
  have hX7 := blk_below (unhide HXY).1 hb6
  have hY7 := blk_below (unhide HXY).2 hb6
  replace o7 := own_below o7 hb6
  replace o8 := own_below o8 hb6
  have hv1a := hv1.below hb6
  have HXY7 := hide (And.intro hX7 hY7)
  obtain ⟨x0, x1, x2, x3, x4, x5⟩ := six_cells (hX7)
  obtain ⟨y0, y1, y2, y3, y4, y5⟩ := six_cells (hY7)
  have hlx := blk_lt hX7
  have hly := blk_lt hY7
  clear HXY hX7 hY7 hB6 hC6 hb6 hv1
  go_wp2_with fail
  have hB7d := hB7.drew
  go_region_held3 (fun w' => (w'.cell? ⟨w.heap.size, 0, none⟩ = some (.int .i64 k) ∧ w'.cell? ⟨w.heap.size, 1, none⟩ = some (.int .i64 f) ∧ w'.cell? ⟨w.heap.size, 2, none⟩ = some (.slice xa t.length xc) ∧ w'.cell? ⟨w.heap.size, 3, none⟩ = some (.int .i64 n) ∧ w'.cell? ⟨w.heap.size, 4, none⟩ = some (.int .i64 st) ∧ w'.cell? ⟨w.heap.size, 5, none⟩ = some (.slice ya u.length yc)) ∧ w'.cell? ⟨Q, 0, none⟩ = some (.int .i64 k) ∧ w'.cell? ⟨Q, 1, none⟩ = some (.int .i64 f) ∧ w'.cell? ⟨Q, 2, none⟩ = some (.slice (some ⟨g3, 0, none⟩) t.length t.length) ∧ w'.cell? ⟨Q, 3, none⟩ = some (.int .i64 n) ∧ w'.cell? ⟨Q, 4, none⟩ = some (.int .i64 st) ∧ w'.cell? ⟨Q, 5, none⟩ = some (.slice (some ⟨g4, 0, none⟩) u.length u.length)) (first | (refine ⟨⟨?_, ?_, ?_, ?_, ?_, ?_⟩, ?_, ?_, ?_, ?_, ?_, ?_⟩ <;> assumption) | go_keep) (first
    | (go_at_call 19; have hx := hb7; refine (unhide HE w7 _ _ _ _ _ _ _ _ (own_below (World.ownsRow.drew o7) hb7) (own_below (World.ownsRow.drew o8) hb7) p1 p2).mono ?_; rintro e w8 ⟨rfl, hb8⟩; have n0 := (hb8.cell (p := ⟨w.heap.size, 0, none⟩) hlx7).trans m0; have n1 := (hb8.cell (p := ⟨w.heap.size, 1, none⟩) hlx7).trans m1; have n2 := (hb8.cell (p := ⟨w.heap.size, 2, none⟩) hlx7).trans m2; have n3 := (hb8.cell (p := ⟨w.heap.size, 3, none⟩) hlx7).trans m3; have n4 := (hb8.cell (p := ⟨w.heap.size, 4, none⟩) hlx7).trans m4; have n5 := (hb8.cell (p := ⟨w.heap.size, 5, none⟩) hlx7).trans m5; have q0 := (hb8.cell (p := ⟨Q, 0, none⟩) hly7).trans z0; have q1 := (hb8.cell (p := ⟨Q, 1, none⟩) hly7).trans z1; have q2 := (hb8.cell (p := ⟨Q, 2, none⟩) hly7).trans z2; have q3 := (hb8.cell (p := ⟨Q, 3, none⟩) hly7).trans z3; have q4 := (hb8.cell (p := ⟨Q, 4, none⟩) hly7).trans z4; have q5 := (hb8.cell (p := ⟨Q, 5, none⟩) hly7).trans z5)
    | (go_at_call 17; refine (unhide HT w6.drew hB7d).mono ?_; rintro e w7 ⟨g5, g6, rfl, _, p1, p2, hb7⟩; have m0 := (hb7.cell (p := ⟨w.heap.size, 0, none⟩) hlx).trans x0; have m1 := (hb7.cell (p := ⟨w.heap.size, 1, none⟩) hlx).trans x1; have m2 := (hb7.cell (p := ⟨w.heap.size, 2, none⟩) hlx).trans x2; have m3 := (hb7.cell (p := ⟨w.heap.size, 3, none⟩) hlx).trans x3; have m4 := (hb7.cell (p := ⟨w.heap.size, 4, none⟩) hlx).trans x4; have m5 := (hb7.cell (p := ⟨w.heap.size, 5, none⟩) hlx).trans x5; have z0 := (hb7.cell (p := ⟨Q, 0, none⟩) hly).trans y0; have z1 := (hb7.cell (p := ⟨Q, 1, none⟩) hly).trans y1; have z2 := (hb7.cell (p := ⟨Q, 2, none⟩) hly).trans y2; have z3 := (hb7.cell (p := ⟨Q, 3, none⟩) hly).trans y3; have z4 := (hb7.cell (p := ⟨Q, 4, none⟩) hly).trans y4; have z5 := (hb7.cell (p := ⟨Q, 5, none⟩) hly).trans y5; have hlx7 : w.heap.size < w7.heap.size := World.block_lt_of_cell? w7 ⟨_, _, none⟩ m0; have hly7 : Q < w7.heap.size := World.block_lt_of_cell? w7 ⟨_, _, none⟩ z0))
  have hb68 : Below w6.heap.size w6 w8 := (show Below w6.heap.size w6 w7 from ⟨hb7.os, hb7.tape, hb7.output, hb7.size, hb7.block⟩).trans (hb8.mono (show w6.heap.size ≤ w7.heap.size from hb7.size))
  have hB8 := bstep hB7 hb68
  have hC8 := bstep hC7 hb68
  have hX8 := blk_below (unhide HXY7).1 hb68
  have hY8 := blk_below (unhide HXY7).2 hb68
  have o9 : OwnC w8 _ (.slice (some ⟨g3, 0, none⟩) t.length t.length) t := own_below o7 hb68
  have o10 : OwnC w8 _ (.slice (some ⟨g4, 0, none⟩) u.length u.length) u := own_below o8 hb68
  have hv1b := hv1a.below hb68
  clear x0 x1 x2 x3 x4 x5 y0 y1 y2 y3 y4 y5 m0 m1 m2 m3 m4 m5 z0 z1 z2 z3 z4 z5 n0 n1 n2 n3 n4 n5 q0 q1 q2 q3 q4 q5
  clear HXY7 hx hb7 hb8 hB7 hB7d hC7 p1 p2 o7 o8 hlx hly hlx7 hly7 hb68 hv1a HE
  obtain ⟨y0, y1, y2, y3, y4, y5⟩ := six_cells (hY8)
  have HMM := hide (unhide HMK w8 _ _ g3 g4 o9 o10 (by omega))
  have HX8 := hide hX8
  clear hX8 hY8 HMK o9 o10
  go_wp2_with fail
  refine (unhide HMM).mono ?_
  rintro e w9 ⟨⟨q, rfl, hq⟩, hK⟩
  have hw3 : w.heap.size ≤ w3.heap.size := hB3.size
  have hw38 : w3.heap.size ≤ w8.heap.size := hC8.size
  have hB9 : Below w.heap.size w w9 := hK.below hB8 hB8.size (by omega) (by omega)
  have hC9 : Below w3.heap.size w3 w9 := hK.below hC8 hw38 hg3' hg4'
  have hX9 := hK.blk (unhide HX8) (by omega) (by omega)
  have hv1c : OwnY w9 V.heap.size (.slice ao1 z.length cap1) z := hK.own hv1b (by omega) (by omega)
  have hpos : ¬ (q < 0) := by omega
  have HX9 := hide hX9
  clear HMM HX8 hK hB8 hC8 hv1b hX9
  clear y0 y1 y2 y3 y4 y5
  go_wp2_with fail
  refine (eqByteS_any _ _ _ _ z z w9 hzm hv1c.row (hv0.below hC9).row).mono ?_
  rw [decide_eq_yes rfl]
  rintro e wa ⟨rfl, hba⟩
  have hBa := bstep hB9 hba
  have hCa := bstep hC9 hba
  have hv1d := hv1c.below hba
  have hXa := blk_below (unhide HX9) hba
  have HXa := hide hXa
  clear HX9 hXa hB9 hC9 hba hv1c
  go_wp2_with fail
  refine (markByteS_one _ _ z V.heap.size wa hzl hv1d).mono ?_
  rintro e wb ⟨rfl, hmk, hGb⟩
  have hVw : w3.heap.size < V.heap.size := by omega
  have hBb : Below w.heap.size w wb := below_row hBa hGb hv1d (by omega)
  have hCb : Below w3.heap.size w3 wb := below_row hCa hGb hv1d (by omega)
  have hXb : wb.heap[w.heap.size]? = some (.cells #[Value.int IntKind.i64 k, Value.int IntKind.i64 f, Value.slice xa t.length xc, Value.int IntKind.i64 n, Value.int IntKind.i64 st, Value.slice ya u.length yc] 37 (0, 0)) := (hGb.block w.heap.size (blk_lt (unhide HXa)) (fun e => by have := (World.ownsRow.lt hv1d _ e.symm).1; omega)).trans (unhide HXa)
  have HXb := hide hXb
  clear HXa hXb hBa hCa hGb hv1d
  go_wp2_with fail
  refine (heldByteS_one _ _ z.length wb hzl hmk.row).mono ?_
  rintro e wc ⟨rfl, rfl⟩
  have hne2 : ((1 + (z.length : Int)) != (1 + (z.length : Int))) = false := by simp
  obtain ⟨x0, x1, x2, x3, x4, x5⟩ := six_cells ((unhide HXb))
  -- the last copy, and the program's answer once more
  go_wp2_with fail
  refine (unhide HT wc hBb).mono ?_
  rintro e wd ⟨g7, g8, rfl, _, o11, o12, hbd⟩
  have hBd := bstep hBb hbd
  have hCd := bstep hCb hbd
  have H6 := hide (unhide HI wd _ _ _ _ o11 o12)
  clear x0 x1 x2 x3 x4 x5
  clear HXb o11 o12 HT HI HS
  go_wp2_with fail
  refine (unhide H6).mono ?_
  rintro e we ⟨v2, rfl, hv2, hbe⟩
  have hBe := bstep hBd hbe
  have hCe := bstep hCd hbe
  obtain ⟨ao2, cap2, rfl, _⟩ := hv2.shape
  go_wp2_with fail
  refine (eqByteS_any _ _ _ _ z z we hzm hv2.row (hv0.below hCe).row).mono ?_
  rw [decide_eq_yes rfl]
  rintro e wf ⟨rfl, hbf⟩
  have hBf := bstep hBe hbf
  have hmk2 := hmk.below (bstep (bstep hbd hbe) hbf)
  go_wp2_with fail
  refine (heldByteS_one _ _ z.length wf hzl hmk2.row).mono ?_
  rintro e wg ⟨rfl, rfl⟩
  go_wp2
  go_ret
  exact ⟨rfl, hBf⟩
end Go.Proofs.Ytonpahhcfgdeoaa

/- Arguments of the laws, opened: an outcome that came in (a struct of a number and a slice of places). -/
namespace Go.Proofs.Ytonpahhcfgdeoaa
open Go.RowKit Go.Deep Go.ChangeShapes Go.WideShapes
set_option linter.unusedVariables false
set_option linter.unusedSimpArgs false

theorem Try.cellsOut : Try.prog.cellsOf 24 = 2 := by kernel_rfl
theorem Try.cellsSl5 : Try.prog.cellsOf 22 = 1 := by kernel_rfl

set_option maxRecDepth 100000 in
/-- A slice of places that stands in a struct. -/
theorem open_slot5 {H : Type} {enc : TypeId × Value → H} {W : World} {v1 : Value} {n' : Nat} {y1 : DataW H × List MemPlace} (t1' : DataW.trod enc Try.prog W 0 (fun _ => true) true n' 22 [v1] = some y1) :
    ∃ (ao : Option Addr) (t : List C) (c : Nat), v1 = .slice ao t.length c ∧ t.length ≤ maxLen ∧ Row W ao t ∧ Fit t ∧ WfC t := by
  have sh : ∃ ao l c, v1 = .slice ao l c ∧ l ≤ c ∧ c ≤ maxLen := by
    rcases open_slice Try.underlying22 t1' with ⟨hcs, _⟩ | ⟨x, l, c, m, n, D, Pl, hcs, _, hl, hm, _⟩
    · simp at hcs; exact ⟨_, _, _, hcs, Nat.le_refl _, Nat.zero_le _⟩
    · simp at hcs; exact ⟨_, _, _, hcs, hl, hm⟩
  obtain ⟨ao, l1, c1, rfl, hl1, hc1⟩ := sh
  obtain ⟨t, rfl, hm, hR, hF, hw⟩ := open_cells (enc := enc) (d := y1.1) (p := y1.2) ⟨n', t1'⟩
  exact ⟨ao, t, c1, rfl, hm, hR, hF, hw⟩

set_option maxRecDepth 100000 in
/-- An outcome that came in leads to a row of places. -/
theorem open_out {H : Type} {enc : TypeId × Value → H} {W : World} {v : Value} {d : DataW H} {p : List MemPlace} (hv : ∃ cs, v = .agg cs ∧ cs.size = Try.prog.cellsOf 24)
    (h : DataW.Trod enc Try.prog W 0 (fun _ => true) true 24 v d p) :
    ∃ (k : Int) (xa : Option Addr) (xc : Nat) (a : List C), v = .agg #[.int .i64 k, .slice xa a.length xc] ∧ a.length ≤ maxLen ∧ Row W xa a ∧ Fit a ∧ WfC a := by
  obtain ⟨cs, rfl, hs⟩ := hv
  rw [Try.cellsOut] at hs
  obtain ⟨fuel, hf⟩ := h
  obtain ⟨y0, y1, n', _, _, t0, t1⟩ := trod_struct2 Try.underlying24 hf
  obtain ⟨l⟩ := cs
  match l, hs with
  | [v0, v1], _ =>
    simp only [Try.cellsInt, Try.cellsSl5, Value.cells] at t0 t1
    obtain ⟨z0, e0, _, w0⟩ := DataW.trod_int Try.underlying3 t0
    obtain ⟨xa, a, xc, rfl, ha, hA, fA, wA⟩ := open_slot5 (enc := enc) (by simpa using t1)
    simp at e0
    subst e0
    exact ⟨z0, xa, xc, a, rfl, ha, hA, fA, wA⟩
end Go.Proofs.Ytonpahhcfgdeoaa

/- Arguments of the laws, opened: a message that came in (a struct of numbers, a slice of places and an outcome). -/
namespace Go.Proofs.Ytonpahhcfgdeoaa
open Go.RowKit Go.Deep Go.ChangeShapes Go.WideShapes
set_option linter.unusedVariables false
set_option linter.unusedSimpArgs false

theorem Try.cellsMsg : Try.prog.cellsOf 37 = 6 := by kernel_rfl

theorem arr6 {α : Type} {cs : Array α} (h : cs.size = 6) : ∃ c0 c1 c2 c3 c4 c5, cs = #[c0, c1, c2, c3, c4, c5] := by
  obtain ⟨l⟩ := cs
  match l, h with
  | [c0, c1, c2, c3, c4, c5], _ => exact ⟨c0, c1, c2, c3, c4, c5, rfl⟩

theorem open_msg_int {H : Type} {enc : TypeId × Value → H} {W : World} {v1 : Value} {n' : Nat} {y1 : DataW H × List MemPlace} (t1' : DataW.trod enc Try.prog W 0 (fun _ => true) true n' 3 [v1] = some y1) : ∃ x : Int, v1 = .int .i64 x := by
  obtain ⟨z0, e0, _, w0⟩ := DataW.trod_int Try.underlying3 t1'
  simp at e0
  exact ⟨z0, e0⟩

set_option maxRecDepth 100000 in
/-- A message that came in leads to two rows of places. -/
theorem open_msg {H : Type} {enc : TypeId × Value → H} {W : World} {v : Value} {d : DataW H} {p : List MemPlace} (hv : ∃ cs, v = .agg cs ∧ cs.size = Try.prog.cellsOf 37)
    (h : DataW.Trod enc Try.prog W 0 (fun _ => true) true 37 v d p) :
    ∃ (k f n st : Int) (xa ya : Option Addr) (xc yc : Nat) (a b : List C), v = .agg #[.int .i64 k, .int .i64 f, .slice xa a.length xc, .int .i64 n, .int .i64 st, .slice ya b.length yc] ∧ a.length ≤ maxLen ∧ b.length ≤ maxLen ∧ Row W xa a ∧ Row W ya b ∧ Fit a ∧ Fit b ∧ WfC a ∧ WfC b := by
  obtain ⟨cs, rfl, hs⟩ := hv
  rw [Try.cellsMsg] at hs
  obtain ⟨fuel, hf⟩ := h
  obtain ⟨v0, v1, v2, v3, v4, v5, rfl⟩ := arr6 hs
  obtain ⟨xs, n', _, _, hl, hlen, hfs⟩ := DataW.trod_struct Try.underlying37 hf
  match xs, hlen with
  | [y0, y1, y2, y3, y4], _ =>
    have t0 := hfs 0 _ rfl
    have t1 := hfs 1 _ rfl
    have t2 := hfs 2 _ rfl
    have t3 := hfs 3 _ rfl
    have t4 := hfs 4 _ rfl
    obtain ⟨k, rfl⟩ := open_msg_int (enc := enc) (by simpa [Try.cellsInt, Value.cells] using t0)
    obtain ⟨f, rfl⟩ := open_msg_int (enc := enc) (by simpa [Try.cellsInt, Value.cells] using t1)
    obtain ⟨xa, a, xc, rfl, ha, hA, fA, wA⟩ := open_slot5 (enc := enc) (by simpa [Try.cellsSl5, Value.cells] using t2)
    obtain ⟨n, rfl⟩ := open_msg_int (enc := enc) (by simpa [Try.cellsInt, Value.cells] using t3)
    have t4' : DataW.trod enc Try.prog W 0 (fun _ => true) true n' 24 [v4, v5] = some y4 := by simpa [Try.cellsOut, Value.cells] using t4
    obtain ⟨st, ya, yc, b, e, hb, hB, fB, wB⟩ := open_out (enc := enc) (v := .agg #[v4, v5]) (d := y4.1) (p := y4.2) ⟨_, rfl, by rw [Try.cellsOut]; rfl⟩ ⟨n', by simpa [Value.cells] using t4'⟩
    simp only [Value.agg.injEq, Array.mk.injEq, List.cons.injEq, and_true] at e
    obtain ⟨rfl, rfl⟩ := e
    exact ⟨k, f, n, st, xa, ya, xc, yc, a, b, rfl, ha, hb, hA, hB, fA, fB, wA, wB⟩
end Go.Proofs.Ytonpahhcfgdeoaa
