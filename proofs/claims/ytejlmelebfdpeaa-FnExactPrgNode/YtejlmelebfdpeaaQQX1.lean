/- PrgOk of the program; the walk of FnExactPrgOk. -/
import Derived.Test.YtejlmelebfdpeaaQQI10Open4
import Derived.Test.YtejlmelebfdpeaaQQP6
import Derived.Test.YtejlmelebfdpeaaQQP4
import Derived.Test.YtejlmelebfdpeaaQQP3
import Derived.Test.YtejlmelebfdpeaaQQP2
import Derived.Deep.RegionHeld3
namespace Go.Proofs.Ytejlmelebfdpeaa
open Go.RowKit Go.Shelf
set_option linter.unusedVariables false
set_option linter.unusedSimpArgs false

theorem pgV_sl {w : World} {x : Pg} {v0 v1 : Value} (h : PgV w x v0 v1) : ∃ a0 n0 c0 a1 n1 c1, v0 = .slice a0 n0 c0 ∧ v1 = .slice a1 n1 c1 := by
  obtain ⟨⟨p1, p2, p3, _⟩, ⟨q1, q2, q3, _⟩⟩ := h
  exact ⟨_, _, _, _, _, _, p3, q3⟩

set_option maxRecDepth 100000 in
set_option maxHeartbeats 2000000 in
theorem implPrgOk_any (x : Pg) (v0 v1 : Value) (w : World) (hF : FitPg x) (hs : szPg x ≤ 1048576) (hv : PgV w x v0 v1) :
    Calls Try.prog 11 #[.agg #[v0, v1]] w fun e w' => e = .returned (.bool (prgB x)) ∧ Below w.heap.size w w' := by
  obtain ⟨a0, n0, c0, a1, n1, c1, rfl, rfl⟩ := pgV_sl hv
  obtain ⟨hb0, d0, d1⟩ := two_new w (.slice a0 n0 c0) (.slice a1 n1 c1) 31
  have HP := hide (fun (W : World) (hW : Below w.heap.size w W) => programOf_any x _ _ W hF hs (hv.below hW))
  clear hv
  go_enter Try.func11, Try.ntmps11
  go_wp2_with fail
  generalize w.alloc (.cells #[.slice a0 n0 c0, .slice a1 n1 c1] 31) = w0 at hb0 d0 d1 ⊢
  refine (unhide HP w0 hb0).mono ?_
  rintro e w1 ⟨w2, hp⟩
  rcases hp with ⟨hp, P, vc, vp, rfl, _, hb1⟩ | ⟨hp, rfl, hb1⟩
  · have HH := hide hp
    have hB := bstep hb0 hb1
    clear hp HP
    go_wp2
    go_ret
    exact ⟨ret_bool (by rw [unhide HH]), hB⟩
  · have HH := hide hp
    have hB := bstep hb0 hb1
    clear hp HP
    go_wp2
    go_ret
    exact ⟨ret_bool (by rw [unhide HH]), hB⟩

set_option maxRecDepth 100000 in
set_option maxHeartbeats 4000000 in
theorem FnExactPrgOk_walk (x : Pg) (v0 v1 : Value) (w : World) (hv : PgV w x v0 v1) (hF : FitPg x) :
    Calls Try.prog 3 #[.agg #[v0, v1]] w fun e w' => e = .returned (.bool true) ∧ Below w.heap.size w w' := by
  obtain ⟨a0, n0, c0, a1, n1, c1, rfl, rfl⟩ := pgV_sl hv
  obtain ⟨hb0, d0, d1⟩ := two_new w (.slice a0 n0 c0) (.slice a1 n1 c1) 25
  have HSZ := hide (fun (W : World) (hW : Below w.heap.size w W) => szPg_any x _ _ 1048576 W (hv.below hW) hF (by omega) (by omega))
  go_enter Try.func3, Try.ntmps3
  go_wp2_with fail
  generalize w.alloc (.cells #[.slice a0 n0 c0, .slice a1 n1 c1] 25) = w0 at hb0 d0 d1 ⊢
  have hl0 : w.heap.size < w0.heap.size := World.block_lt_of_cell? w0 ⟨_, _, none⟩ d1
  refine (unhide HSZ w0 hb0).mono ?_
  rintro e w1 ⟨r1, rfl, hr1, hb1⟩
  have hB1 := bstep hb0 hb1
  replace d0 := (hb1.cell (p := ⟨w.heap.size, 0, none⟩) hl0).trans d0
  replace d1 := (hb1.cell (p := ⟨w.heap.size, 1, none⟩) hl0).trans d1
  replace hl0 : w.heap.size < w1.heap.size := World.block_lt_of_cell? w1 ⟨_, _, none⟩ d1
  clear HSZ hb0 hb1
  by_cases hr0 : r1 < 0
  · go_wp2
    go_ret
    exact ⟨rfl, hB1⟩
  have hs : szPg x ≤ 1048576 := by omega
  clear hr1
  have HT := hide (fun (W : World) (hW : Below w.heap.size w W) => toPg_any x _ _ W hF hs (hv.below hW))
  have HS := hide (fun (W : World) (u0 u1 : Value) (h : PgV W x u0 u1) => specPrgOk_any x u0 u1 W hF hs h)
  have HI := hide (fun (W : World) (u0 u1 : Value) (h : PgV W x u0 u1) => implPrgOk_any x u0 u1 W hF hs h)
  have HE := hide (fun (W : World) (u0 u1 t0 t1 : Value) (h : PgV W x u0 u1) (k : PgV W x t0 t1) => eqPg_yes x u0 u1 t0 t1 W hF hs h k)
  obtain ⟨B, hBe⟩ : ∃ B, B = prgB x := ⟨_, rfl⟩
  rw [← hBe] at HS HI
  clear hBe hv hF hs
  go_wp2_with fail
  refine (unhide HT w1 hB1).mono ?_
  rintro e w2 ⟨u0, u1, rfl, hS2, hb2⟩
  have hB2 := bstep hB1 hb2
  replace d0 := (hb2.cell (p := ⟨w.heap.size, 0, none⟩) hl0).trans d0
  replace d1 := (hb2.cell (p := ⟨w.heap.size, 1, none⟩) hl0).trans d1
  replace hl0 : w.heap.size < w2.heap.size := World.block_lt_of_cell? w2 ⟨_, _, none⟩ d1
  have H2 := hide (unhide HS w2 u0 u1 hS2.here)
  obtain ⟨_, _, _, _, _, _, rfl, rfl⟩ := pgV_sl hS2.here
  clear HS hS2 hB1 hb2
  go_wp2_with fail
  refine (unhide H2).mono ?_
  rintro e w3 ⟨rfl, hb3⟩
  have hB3 := bstep hB2 hb3
  replace d0 := (hb3.cell (p := ⟨w.heap.size, 0, none⟩) hl0).trans d0
  replace d1 := (hb3.cell (p := ⟨w.heap.size, 1, none⟩) hl0).trans d1
  replace hl0 : w.heap.size < w3.heap.size := World.block_lt_of_cell? w3 ⟨_, _, none⟩ d1
  clear H2 hB2 hb3
  go_wp2_with fail
  refine (unhide HT w3 hB3).mono ?_
  rintro e w4 ⟨u2, u3, rfl, hS4, hb4⟩
  have hB4 := bstep hB3 hb4
  replace d0 := (hb4.cell (p := ⟨w.heap.size, 0, none⟩) hl0).trans d0
  replace d1 := (hb4.cell (p := ⟨w.heap.size, 1, none⟩) hl0).trans d1
  replace hl0 : w.heap.size < w4.heap.size := World.block_lt_of_cell? w4 ⟨_, _, none⟩ d1
  have hP4 := hS4.here
  obtain ⟨e0, m0, k0, e1, m1, k1, rfl, rfl⟩ := pgV_sl hP4
  obtain ⟨hb5, x0, x1⟩ := two_new w4 (.slice e0 m0 k0) (.slice e1 m1 k1) 31
  clear hS4 hB3 hb4
  go_wp2_with fail
  generalize w4.alloc (.cells #[.slice e0 m0 k0, .slice e1 m1 k1] 31) = w5 at hb5 x0 x1 ⊢
  have hB5 := bstep hB4 hb5
  have hP5 := hP4.below hb5
  replace d0 := (hb5.cell (p := ⟨w.heap.size, 0, none⟩) hl0).trans d0
  replace d1 := (hb5.cell (p := ⟨w.heap.size, 1, none⟩) hl0).trans d1
  replace hl0 : w.heap.size < w5.heap.size := World.block_lt_of_cell? w5 ⟨_, _, none⟩ d1
  have hx0 : w4.heap.size < w5.heap.size := World.block_lt_of_cell? w5 ⟨_, _, none⟩ x1
  clear hP4 hB4 hb5
  generalize w4.heap.size = Q at x0 x1 hx0 ⊢
  have H5 := hide (unhide HI w5 _ _ hP5)
  refine (unhide H5).mono ?_
  rintro e w6 ⟨rfl, hb6⟩
  have hB6 := bstep hB5 hb6
  have hP6 := hP5.below hb6
  replace d0 := (hb6.cell (p := ⟨w.heap.size, 0, none⟩) hl0).trans d0
  replace d1 := (hb6.cell (p := ⟨w.heap.size, 1, none⟩) hl0).trans d1
  replace x0 := (hb6.cell (p := ⟨Q, 0, none⟩) hx0).trans x0
  replace x1 := (hb6.cell (p := ⟨Q, 1, none⟩) hx0).trans x1
  replace hl0 : w.heap.size < w6.heap.size := World.block_lt_of_cell? w6 ⟨_, _, none⟩ d1
  replace hx0 : Q < w6.heap.size := World.block_lt_of_cell? w6 ⟨_, _, none⟩ x1
  have hBB : (B != B) = false := by simp
  clear H5 HI hP5 hB5 hb6
  go_wp2_with fail
  have hB6d := hB6.drew
  have HP6 := hide hP6
  clear hP6
  go_region_held3 (fun w' => w'.cell? ⟨w.heap.size, 0, none⟩ = some (.slice a0 n0 c0) ∧ w'.cell? ⟨w.heap.size, 1, none⟩ = some (.slice a1 n1 c1) ∧ w'.cell? ⟨Q, 0, none⟩ = some (.slice e0 m0 k0) ∧ w'.cell? ⟨Q, 1, none⟩ = some (.slice e1 m1 k1)) (first | (refine ⟨?_, ?_, ?_, ?_⟩ <;> assumption) | go_keep) (first
    | (go_at_call 12; have hx := hb7; refine (unhide HE w7 _ _ _ _ ((unhide HP6).below (show Below w6.heap.size w6 w7 from ⟨hb7.os, hb7.tape, hb7.output, hb7.size, hb7.block⟩)) hP7).mono ?_; rintro e w8 ⟨rfl, hb8⟩; have n0 := (hb8.cell (p := ⟨w.heap.size, 0, none⟩) hl7).trans m0'; have n1 := (hb8.cell (p := ⟨w.heap.size, 1, none⟩) hl7).trans m1'; have q0 := (hb8.cell (p := ⟨Q, 0, none⟩) hx7).trans z0; have q1 := (hb8.cell (p := ⟨Q, 1, none⟩) hx7).trans z1)
    | (go_at_call 10; refine (unhide HT w6.drew hB6d).mono ?_; rintro e w7 ⟨t0, t1, rfl, hS7, hb7⟩; have hP7 := hS7.here; have m0' := (hb7.cell (p := ⟨w.heap.size, 0, none⟩) hl0).trans d0; have m1' := (hb7.cell (p := ⟨w.heap.size, 1, none⟩) hl0).trans d1; have z0 := (hb7.cell (p := ⟨Q, 0, none⟩) hx0).trans x0; have z1 := (hb7.cell (p := ⟨Q, 1, none⟩) hx0).trans x1; have hl7 : w.heap.size < w7.heap.size := World.block_lt_of_cell? w7 ⟨_, _, none⟩ m0'; have hx7 : Q < w7.heap.size := World.block_lt_of_cell? w7 ⟨_, _, none⟩ z0))
  go_wp2
  go_ret
  exact ⟨rfl, bstep (bstep hB6d hb7) hb8⟩
end Go.Proofs.Ytejlmelebfdpeaa
