/- The walk of FnExactPrgNode. -/
import Derived.Test.YtpfoaleehdiahaaQQN2
import Derived.Test.YtpfoaleehdiahaaQW6W7
namespace Go.Proofs.Ytpfoaleehdiahaa
open Go.RowKit Go.Shelf
set_option linter.unusedVariables false
set_option linter.unusedSimpArgs false

set_option maxRecDepth 100000 in
set_option maxHeartbeats 8000000 in
theorem FnExactPrgNode_walk (x : Pg) (v0 v1 : Value) (ta : Option Addr) (tc : Nat) (t : List C) (w : World) (hv : PgV w x v0 v1) (hF : FitPg x) (hm : t.length ≤ maxLen) (hA : Row w ta t) (hT : Fit t) (hw : WfC t) :
    Calls Try.prog 3 #[.agg #[v0, v1], .slice ta t.length tc] w fun e w' => e = .returned (.bool true) ∧ Below w.heap.size w w' := by
  obtain ⟨a0, n0, c0, a1, n1, c1, rfl, rfl⟩ := pgV_sl hv
  obtain ⟨hb0, d0, d1⟩ := two_new w (.slice a0 n0 c0) (.slice a1 n1 c1) 25
  have HSZ := hide (fun (W : World) (hW : Below w.heap.size w W) => szPg_any x _ _ 1048576 W (hv.below hW) hF (by omega) (by omega))
  have HSZT := hide (fun (W : World) (hW : Below w.heap.size w W) (l : Int) (h0 : 0 ≤ l) (h1 : l ≤ 1048576) => szTrmCellS_any ta tc t l W hm (hA.below hW) hT h0 h1)
  go_enter Try.func3, Try.ntmps3
  go_wp2_with fail
  generalize w.alloc (.cells #[.slice a0 n0 c0, .slice a1 n1 c1] 25) = w0 at hb0 d0 d1 ⊢
  have hl0 : w.heap.size < w0.heap.size := World.block_lt_of_cell? w0 ⟨_, _, none⟩ d1
  refine (unhide HSZ w0 hb0).mono ?_
  rintro e w1 ⟨r1, rfl, hr1, hb1⟩
  have hB1 := bstep hb0 hb1
  replace d0 := (hb1.cell (p := ⟨w.heap.size, 0, none⟩) hl0).trans d0
  replace d1 := (hb1.cell (p := ⟨w.heap.size, 1, none⟩) hl0).trans d1
  replace hl0 : w.heap.size < w1.heap.size := World.block_lt_of_cell? w1 ⟨_, _, none⟩ d1
  clear HSZ hb0 hb1
  by_cases hr0 : r1 < 0
  · go_wp2
    go_ret
    exact ⟨rfl, hB1⟩
  have hs : szPg x ≤ 1048576 := by omega
  have HZ := hide (unhide HSZT w1 hB1 r1 (by omega) (by omega))
  clear HSZT
  go_wp2_with fail
  refine (unhide HZ).mono ?_
  rintro e w1b ⟨r2, rfl, hr2, hb1⟩
  replace hB1 := bstep hB1 hb1
  replace d0 := (hb1.cell (p := ⟨w.heap.size, 0, none⟩) hl0).trans d0
  replace d1 := (hb1.cell (p := ⟨w.heap.size, 1, none⟩) hl0).trans d1
  replace hl0 : w.heap.size < w1b.heap.size := World.block_lt_of_cell? w1b ⟨_, _, none⟩ d1
  clear hb1 HZ
  by_cases hr3 : r2 < 0
  · go_wp2
    go_ret
    exact ⟨rfl, hB1⟩
  have tl : t.length ≤ 1048576 := by omega
  clear hr1 hr2
  have HT := hide (fun (W : World) (hW : Below w.heap.size w W) => toPg_any x _ _ W hF hs (hv.below hW))
  have HTT := hide (fun (W : World) (hW : Below w.heap.size w W) => toTrmCellS_any ta tc t W tl (hA.below hW))
  have HS := hide (fun (W : World) (u0 u1 : Value) (h : PgV W x u0 u1) (g : Nat) (b : Nat) (ho : W.ownsRow b 79 3 (.slice (some ⟨g, 0, none⟩) t.length t.length) t.length (flat t)) => specPrgNode_any x u0 u1 (some ⟨g, 0, none⟩) t.length t W hF hs h hm (row_of_own ho) hT)
  have HI := hide (fun (W : World) (u0 u1 : Value) (h : PgV W x u0 u1) (g : Nat) (b : Nat) (ho : W.ownsRow b 79 3 (.slice (some ⟨g, 0, none⟩) t.length t.length) t.length (flat t)) => implPrgNode_any x u0 u1 (some ⟨g, 0, none⟩) t.length t W hF hs h (Nat.le_refl _) (by unfold maxLen; omega) (row_of_own ho) hT)
  have HE := hide (fun (W : World) (u0 u1 t0 t1 : Value) (h : PgV W x u0 u1) (k : PgV W x t0 t1) => eqPg_yes x u0 u1 t0 t1 W hF hs h k)
  have HET := hide (fun (W : World) (g g' b b' : Nat) (ho : W.ownsRow b 79 3 (.slice (some ⟨g, 0, none⟩) t.length t.length) t.length (flat t)) (ho' : W.ownsRow b' 79 3 (.slice (some ⟨g', 0, none⟩) t.length t.length) t.length (flat t)) => eqTrmCellS_any (some ⟨g, 0, none⟩) (some ⟨g', 0, none⟩) t.length t.length t t W hm (row_of_own ho) (row_of_own ho'))
  simp only [sameS_yes] at HET
  obtain ⟨B, hBe⟩ : ∃ B, B = nodeZ x t := ⟨_, rfl⟩
  rw [← hBe] at HS HI
  clear hBe hv hF hs hA hT hw
  -- the specification
  go_wp2_with fail
  refine (unhide HT w1b hB1).mono ?_
  rintro e w2 ⟨u0, u1, rfl, hS2, hb2⟩
  have hB2 := bstep hB1 hb2
  replace d0 := (hb2.cell (p := ⟨w.heap.size, 0, none⟩) hl0).trans d0
  replace d1 := (hb2.cell (p := ⟨w.heap.size, 1, none⟩) hl0).trans d1
  replace hl0 : w.heap.size < w2.heap.size := World.block_lt_of_cell? w2 ⟨_, _, none⟩ d1
  have hP2 := hS2.here
  obtain ⟨_, _, _, _, _, _, rfl, rfl⟩ := pgV_sl hP2
  have HP2 := hide hP2
  clear hS2 hB1 hb2 hP2
  go_wp2_with fail
  refine (unhide HTT w2 hB2).mono ?_
  rintro e w2b ⟨rfl, ho2, hb2⟩
  have H2 := hide (unhide HS w2b _ _ ((unhide HP2).below hb2) _ _ ho2)
  have hB2b := bstep hB2 hb2
  replace d0 := (hb2.cell (p := ⟨w.heap.size, 0, none⟩) hl0).trans d0
  replace d1 := (hb2.cell (p := ⟨w.heap.size, 1, none⟩) hl0).trans d1
  replace hl0 : w.heap.size < w2b.heap.size := World.block_lt_of_cell? w2b ⟨_, _, none⟩ d1
  generalize w2.heap.size = X1 at H2 ⊢
  clear HS HP2 hB2 hb2 ho2
  go_wp2_with fail
  refine (unhide H2).mono ?_
  rintro e w3 ⟨rfl, hb3⟩
  have hB3 := bstep hB2b hb3
  replace d0 := (hb3.cell (p := ⟨w.heap.size, 0, none⟩) hl0).trans d0
  replace d1 := (hb3.cell (p := ⟨w.heap.size, 1, none⟩) hl0).trans d1
  replace hl0 : w.heap.size < w3.heap.size := World.block_lt_of_cell? w3 ⟨_, _, none⟩ d1
  clear H2 hB2b hb3
  -- the program
  go_wp2_with fail
  refine (unhide HT w3 hB3).mono ?_
  rintro e w4 ⟨u2, u3, rfl, hS4, hb4⟩
  have hB4 := bstep hB3 hb4
  replace d0 := (hb4.cell (p := ⟨w.heap.size, 0, none⟩) hl0).trans d0
  replace d1 := (hb4.cell (p := ⟨w.heap.size, 1, none⟩) hl0).trans d1
  replace hl0 : w.heap.size < w4.heap.size := World.block_lt_of_cell? w4 ⟨_, _, none⟩ d1
  have hP4 := hS4.here
  obtain ⟨e0, m0, k0, e1, m1, k1, rfl, rfl⟩ := pgV_sl hP4
  obtain ⟨hb5, x0, x1⟩ := two_new w4 (.slice e0 m0 k0) (.slice e1 m1 k1) 33
  clear hS4 hB3 hb4
  go_wp2_with fail
  generalize w4.alloc (.cells #[.slice e0 m0 k0, .slice e1 m1 k1] 33) = w5 at hb5 x0 x1 ⊢
  have hB5 := bstep hB4 hb5
  have hP5 := hP4.below hb5
  replace d0 := (hb5.cell (p := ⟨w.heap.size, 0, none⟩) hl0).trans d0
  replace d1 := (hb5.cell (p := ⟨w.heap.size, 1, none⟩) hl0).trans d1
  replace hl0 : w.heap.size < w5.heap.size := World.block_lt_of_cell? w5 ⟨_, _, none⟩ d1
  have hx0 : w4.heap.size < w5.heap.size := World.block_lt_of_cell? w5 ⟨_, _, none⟩ x1
  clear hP4 hB4 hb5
  generalize w4.heap.size = Q at x0 x1 hx0 ⊢
  refine (unhide HTT w5 hB5).mono ?_
  rintro e w5b ⟨rfl, ho5, hb5⟩
  replace hB5 := bstep hB5 hb5
  replace hP5 := hP5.below hb5
  replace d0 := (hb5.cell (p := ⟨w.heap.size, 0, none⟩) hl0).trans d0
  replace d1 := (hb5.cell (p := ⟨w.heap.size, 1, none⟩) hl0).trans d1
  replace x0 := (hb5.cell (p := ⟨Q, 0, none⟩) hx0).trans x0
  replace x1 := (hb5.cell (p := ⟨Q, 1, none⟩) hx0).trans x1
  replace hl0 : w.heap.size < w5b.heap.size := World.block_lt_of_cell? w5b ⟨_, _, none⟩ d1
  replace hx0 : Q < w5b.heap.size := World.block_lt_of_cell? w5b ⟨_, _, none⟩ x1
  obtain ⟨bb, hbb⟩ : ∃ bb, bb = w5.heap.size := ⟨_, rfl⟩
  rw [← hbb] at ho5 ⊢
  clear hbb hb5
  have H5 := hide (unhide HI w5b _ _ hP5 _ _ ho5)
  go_wp2_with fail
  refine (unhide H5).mono ?_
  rintro e w6 ⟨rfl, hb6⟩
  have hB6 := bstep hB5 hb6
  have hP6 := hP5.below hb6
  have ho6 := own_below ho5 hb6
  replace d0 := (hb6.cell (p := ⟨w.heap.size, 0, none⟩) hl0).trans d0
  replace d1 := (hb6.cell (p := ⟨w.heap.size, 1, none⟩) hl0).trans d1
  replace x0 := (hb6.cell (p := ⟨Q, 0, none⟩) hx0).trans x0
  replace x1 := (hb6.cell (p := ⟨Q, 1, none⟩) hx0).trans x1
  replace hl0 : w.heap.size < w6.heap.size := World.block_lt_of_cell? w6 ⟨_, _, none⟩ d1
  replace hx0 : Q < w6.heap.size := World.block_lt_of_cell? w6 ⟨_, _, none⟩ x1
  have hBB : (B != B) = false := by simp
  clear H5 HI hP5 hB5 hb6 ho5
  go_wp2_with fail
  have hB6d := hB6.drew
  have HP6 := hide hP6
  have HO6 := hide ho6
  clear hP6 ho6
  go_region_held3 (fun w' => w'.cell? ⟨w.heap.size, 0, none⟩ = some (.slice a0 n0 c0) ∧ w'.cell? ⟨w.heap.size, 1, none⟩ = some (.slice a1 n1 c1) ∧ w'.cell? ⟨Q, 0, none⟩ = some (.slice e0 m0 k0) ∧ w'.cell? ⟨Q, 1, none⟩ = some (.slice e1 m1 k1)) (first | (refine ⟨?_, ?_, ?_, ?_⟩ <;> assumption) | go_keep) (first
    | (go_at_call 15; have hx := hb7; refine (unhide HE w7 _ _ _ _ ((unhide HP6).below (show Below w6.heap.size w6 w7 from ⟨hb7.os, hb7.tape, hb7.output, hb7.size, hb7.block⟩)) hP7).mono ?_; rintro e w8 ⟨rfl, hb8⟩; have n0 := (hb8.cell (p := ⟨w.heap.size, 0, none⟩) hl7).trans m0'; have n1 := (hb8.cell (p := ⟨w.heap.size, 1, none⟩) hl7).trans m1'; have q0 := (hb8.cell (p := ⟨Q, 0, none⟩) hx7).trans z0; have q1 := (hb8.cell (p := ⟨Q, 1, none⟩) hx7).trans z1)
    | (go_at_call 12; refine (unhide HT w6.drew hB6d).mono ?_; rintro e w7 ⟨t0, t1, rfl, hS7, hb7⟩; have hP7 := hS7.here; have m0' := (hb7.cell (p := ⟨w.heap.size, 0, none⟩) hl0).trans d0; have m1' := (hb7.cell (p := ⟨w.heap.size, 1, none⟩) hl0).trans d1; have z0 := (hb7.cell (p := ⟨Q, 0, none⟩) hx0).trans x0; have z1 := (hb7.cell (p := ⟨Q, 1, none⟩) hx0).trans x1; have hl7 : w.heap.size < w7.heap.size := World.block_lt_of_cell? w7 ⟨_, _, none⟩ m0'; have hx7 : Q < w7.heap.size := World.block_lt_of_cell? w7 ⟨_, _, none⟩ z0))
  have hb68 : Below w6.heap.size w6 w8 := (show Below w6.heap.size w6 w7 from ⟨hb7.os, hb7.tape, hb7.output, hb7.size, hb7.block⟩).trans (hb8.mono (show w6.heap.size ≤ w7.heap.size from hb7.size))
  have hB8 := bstep hB6 hb68
  have ho8 := own_below (unhide HO6) hb68
  clear hx hb7 hb8 hB6 hB6d hP7 hS7 HP6 HO6 HT HE n0 n1 q0 q1 m0' m1' z0 z1 hl7 hx7 d0 d1 x0 x1 hl0 hx0 hb68
  go_wp2_with fail
  refine (unhide HTT w8 hB8).mono ?_
  rintro e w9 ⟨rfl, ho9, hb9⟩
  have hB9 := bstep hB8 hb9
  have H9 := hide (unhide HET w9 _ _ _ _ (own_below ho8 hb9) ho9)
  generalize w8.heap.size = Y at H9 ⊢
  clear ho8 ho9 hb9 HTT HET
  go_wp2_with fail
  refine (unhide H9).mono ?_
  rintro e wa ⟨rfl, hba⟩
  go_wp2
  go_ret
  exact ⟨rfl, bstep hB9 hba⟩
end Go.Proofs.Ytpfoaleehdiahaa
