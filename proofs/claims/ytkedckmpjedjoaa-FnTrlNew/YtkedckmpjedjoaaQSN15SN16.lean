import Derived.Test.YtkedckmpjedjoaaQSN13SN14SB2
import Derived.Test.YtkedckmpjedjoaaQMH1MH2MH3
/- Marks in the one goal of solving at its beginning. -/
namespace Go.Proofs.Ytkedckmpjedjoaa
open Go.RowKit Go.Shelf
set_option linter.unusedVariables false
set_option linter.unusedSimpArgs false

theorem held_nil (a : Option Addr) (c : Nat) (x : Int) (w : World) : Calls Try.prog 40 #[.slice a 0 c, .int .i64 x] w fun e w' => e = .returned (.int .i64 x) ∧ w' = w := by
  go_enter Try.func40, Try.ntmps40
  go_wp2
  refine wp_loop_rounds 1 ?_
  rw [rounds_succ]
  go_wp2
  go_ret
  exact ⟨rfl, rfl⟩
theorem mark_nil (a : Option Addr) (c : Nat) (x : Int) (w : World) : Calls Try.prog 22 #[.slice a 0 c, .int .i64 x] w fun e w' => e = .returned (.int .i64 x) ∧ w' = w := by
  go_enter Try.func22, Try.ntmps22
  go_wp2
  refine wp_loop_rounds 1 ?_
  rw [rounds_succ]
  go_wp2
  go_ret
  exact ⟨rfl, rfl⟩

set_option maxRecDepth 100000 in
set_option maxHeartbeats 4000000 in
theorem heldSg_one (g cg px py pz n : Nat) (pa pb pc : Option Addr) (k e2 : Int) (W : World) (hk0 : 1 ≤ k) (hk : k ≤ 1000000) (he0 : 1 ≤ e2) (he : e2 ≤ 2000000)
    (c0 : W.cell? ⟨g, 0, none⟩ = some (.int .i64 k)) (c1 : W.cell? ⟨g, 1, none⟩ = some (.slice pa n px)) (c2 : W.cell? ⟨g, 2, none⟩ = some (.slice pb 0 py)) (c3 : W.cell? ⟨g, 3, none⟩ = some (.slice pc 0 pz)) (c4 : W.cell? ⟨g, 4, none⟩ = some (.int .i64 e2))
    (H1 : Calls Try.prog 40 #[.slice pa n px, .int .i64 (k + 1)] W fun e w' => e = .returned (.int .i64 e2) ∧ Below W.heap.size W w') :
    Calls Try.prog 70 #[.slice (some ⟨g, 0, none⟩) 1 cg, .int .i64 k] W fun e w' => e = .returned (.int .i64 (e2 + 1)) ∧ Below W.heap.size W w' := by
  have HH := hide H1
  have lg : g < W.heap.size := World.block_lt_of_cell? W ⟨_, _, none⟩ c0
  have ek : (k != k) = false := by simp
  have ee : (e2 != e2) = false := by simp
  have en : ¬ (e2 < 0) := by omega
  clear H1
  go_enter Try.func70, Try.ntmps70
  go_wp2
  refine wp_loop_rounds 2 ?_
  rw [rounds_succ]
  go_wp2_with fail
  refine (unhide HH).mono ?_
  rintro e w1 ⟨rfl, hb1⟩
  have d2 := (hb1.cell (p := ⟨g, 2, none⟩) lg).trans c2
  have d3 := (hb1.cell (p := ⟨g, 3, none⟩) lg).trans c3
  have d4 := (hb1.cell (p := ⟨g, 4, none⟩) lg).trans c4
  have HB := hide hb1
  clear hb1 c0 c1 c2 c3 c4 HH
  have HC := hide (held_nil pb py e2 w1)
  go_wp2_with fail
  refine (unhide HC).mono ?_
  rintro e w2 ⟨rfl, rfl⟩
  have HD := hide (held_nil pc pz e2 w2)
  clear HC
  go_wp2_with fail
  refine (unhide HD).mono ?_
  rintro e w3 ⟨rfl, rfl⟩
  clear HD
  go_wp2
  rw [rounds_succ]
  go_wp2
  go_ret
  exact ⟨rfl, unhide HB⟩

/-- What marking the one goal comes to. -/
def MarkSg (lo hi g cg : Nat) (k : Int) (L : Nat) (w : World) (e : Ending) (w' : World) : Prop := e = .returned (.int .i64 (k + 1 + 3 * (L : Int) + 1)) ∧ Btw lo hi w w' ∧
  ∀ V, Agree lo hi w' V → hi ≤ V.heap.size → Calls Try.prog 70 #[.slice (some ⟨g, 0, none⟩) 1 cg, .int .i64 k] V fun e w'' => e = .returned (.int .i64 (k + 1 + 3 * (L : Int) + 1)) ∧ Below V.heap.size V w''

set_option maxRecDepth 100000 in
set_option maxHeartbeats 4000000 in
theorem markSg_one (lo hi g cg k : Nat) (t : List C) (w : World) (hS : SegL lo hi w 95 5 (.slice (some ⟨g, 0, none⟩) 1 cg) 1 (ESg t)) (hh : hi ≤ w.heap.size) (hk1 : 1 ≤ k) (hk : k ≤ 100000) (hL : t.length ≤ 1000) :
    Calls Try.prog 67 #[.slice (some ⟨g, 0, none⟩) 1 cg, .int .i64 (k : Int)] w (MarkSg lo hi g cg k t.length w) := by
  obtain ⟨l, r, us, b1, b2, b3, b4, hE, hul, hcell, hfr, _, _⟩ := hS.round (esg_keeps t) hh (j := 0) (by omega) (by omega)
  obtain ⟨v0, v1, v2, v3, rfl, hG⟩ := hE
  obtain ⟨hv0, m1, m2, a1, a2, a3, S1, S2, S3⟩ := hG
  obtain ⟨p1, q1, x1, _⟩ := S1.1.shape
  obtain ⟨p2, q2, x2, _⟩ := S2.1.shape
  obtain ⟨p3, q3, x3, _⟩ := S3.1.shape
  simp only at x1 x2 x3 S1 hv0
  subst x1 x2 x3 hv0
  have hgl : lo ≤ g ∧ g < hi := by
    obtain ⟨xs, L, R, hx, hv, _⟩ := hS
    exact ⟨(hx.lt g rfl).1, hv g rfl⟩
  have c0 : w.cell? ⟨g, 0, none⟩ = some (.int .i64 1) := hcell 0 _ rfl
  have c1 : w.cell? ⟨g, 1, none⟩ = some (.slice p1 t.length q1) := hcell 1 _ rfl
  have c2 : w.cell? ⟨g, 2, none⟩ = some (.slice p2 0 q2) := hcell 2 _ rfl
  have c3 : w.cell? ⟨g, 3, none⟩ = some (.slice p3 0 q3) := hcell 3 _ rfl
  have c4 : w.cell? ⟨g, 4, none⟩ = some (.int .i64 0) := hcell 4 _ rfl
  have f0 : w.frozen? ⟨g, 0, none⟩ = false := hfr 0
  have f4 : w.frozen? ⟨g, 4, none⟩ = false := hfr 4
  clear hcell hfr hul hS S2 S3
  have hgw : g < w.heap.size := by omega
  obtain ⟨W1, hW1⟩ : ∃ W1, W1 = w.setCell ⟨g, 0, none⟩ (.int .i64 (k : Int)) := ⟨_, rfl⟩
  have hs1 : W1.heap.size = w.heap.size := by rw [hW1]; simp [World.setCell]
  have hot1 : ∀ j, j ≠ g → W1.heap[j]? = w.heap[j]? := fun j hj => by rw [hW1]; exact set_othr w _ hj
  have d0 : W1.cell? ⟨g, 0, none⟩ = some (.int .i64 (k : Int)) := by rw [hW1]; simp [go_sem, c0]
  have d1 : W1.cell? ⟨g, 1, none⟩ = some (.slice p1 t.length q1) := by rw [hW1]; simp [go_sem, c1]
  have d2 : W1.cell? ⟨g, 2, none⟩ = some (.slice p2 0 q2) := by rw [hW1]; simp [go_sem, c2]
  have d3 : W1.cell? ⟨g, 3, none⟩ = some (.slice p3 0 q3) := by rw [hW1]; simp [go_sem, c3]
  have d4 : W1.cell? ⟨g, 4, none⟩ = some (.int .i64 0) := by rw [hW1]; simp [go_sem, c4]
  have g4 : W1.frozen? ⟨g, 4, none⟩ = false := by rw [hW1]; simp [go_sem, f4]
  have T1 := S1.kept (w' := W1) (fun j h1 h2 => hot1 j (by omega))
  have H1 : Hid (Calls Try.prog 22 #[.slice p1 t.length q1, .int .i64 ((k : Int) + 1)] W1 fun e' w' => e' = .returned (.int .i64 ((k : Int) + 1 + 3 * (t.length : Int))) ∧ Btw l m1 W1 w' ∧ Mrkd 40 l m1 w' (.slice p1 t.length q1) (k + 1) (3 * t.length)) := by
    have h := markC_any l m1 _ t (k + 1) W1 T1 (by omega) (by omega) (by omega)
    rw [show ((k + 1 : Nat) : Int) = (k : Int) + 1 by omega] at h
    refine h.mono ?_
    rintro e' w' ⟨h1, h2, h3⟩
    exact ⟨by rw [h1]; congr 2, h2, h3⟩
  have HB1 := hide (show Btw lo hi w W1 from by
    rw [hW1]
    exact ⟨rfl, rfl, rfl, by simp [World.setCell], fun b h1 h2 => set_othr w _ (by omega)⟩)
  have HF := hide (fun (W2 : World) (hB2 : Btw l m1 W1 W2) (hM : Mrkd 40 l m1 W2 (.slice p1 t.length q1) (k + 1) (3 * t.length)) => (show MarkSg lo hi g cg (k : Int) t.length w (.returned (.int .i64 ((k : Int) + 1 + 3 * (t.length : Int) + 1))) (W2.setCell ⟨g, 4, none⟩ (.int .i64 ((k : Int) + 1 + 3 * (t.length : Int)))) from by
    have hs2 := hB2.size
    have hg2 : W2.heap[g]? = W1.heap[g]? := hB2.block g (by omega) (by omega)
    have e0 : W2.cell? ⟨g, 0, none⟩ = some (.int .i64 (k : Int)) := by rw [← d0]; simp only [World.cell?]; rw [hg2]
    have e1 : W2.cell? ⟨g, 1, none⟩ = some (.slice p1 t.length q1) := by rw [← d1]; simp only [World.cell?]; rw [hg2]
    have e2 : W2.cell? ⟨g, 2, none⟩ = some (.slice p2 0 q2) := by rw [← d2]; simp only [World.cell?]; rw [hg2]
    have e3 : W2.cell? ⟨g, 3, none⟩ = some (.slice p3 0 q3) := by rw [← d3]; simp only [World.cell?]; rw [hg2]
    have e4 : W2.cell? ⟨g, 4, none⟩ = some (.int .i64 0) := by rw [← d4]; simp only [World.cell?]; rw [hg2]
    obtain ⟨x, hx⟩ : ∃ x : Int, x = (k : Int) + 1 + 3 * (t.length : Int) := ⟨_, rfl⟩
    rw [← hx]
    obtain ⟨W3, hW3⟩ : ∃ W3, W3 = W2.setCell ⟨g, 4, none⟩ (.int .i64 x) := ⟨_, rfl⟩
    have hs3 : W3.heap.size = W2.heap.size := by rw [hW3]; simp [World.setCell]
    have hot3 : ∀ j, j ≠ g → W3.heap[j]? = W2.heap[j]? := fun j hj => by rw [hW3]; exact set_othr W2 _ hj
    have i0 : W3.cell? ⟨g, 0, none⟩ = some (.int .i64 (k : Int)) := by rw [hW3]; simp [go_sem, e0]
    have i1 : W3.cell? ⟨g, 1, none⟩ = some (.slice p1 t.length q1) := by rw [hW3]; simp [go_sem, e1]
    have i2 : W3.cell? ⟨g, 2, none⟩ = some (.slice p2 0 q2) := by rw [hW3]; simp [go_sem, e2]
    have i3 : W3.cell? ⟨g, 3, none⟩ = some (.slice p3 0 q3) := by rw [hW3]; simp [go_sem, e3]
    have i4 : W3.cell? ⟨g, 4, none⟩ = some (.int .i64 x) := by rw [hW3]; simp [go_sem, e4]
    have hBt : Btw lo hi W2 W3 := by
      rw [hW3]
      exact ⟨rfl, rfl, rfl, by simp [World.setCell], fun b h1 h2 => set_othr W2 _ (by omega)⟩
    rw [← hW3]
    refine ⟨by rw [hx], ((unhide HB1).trans (hB2.wide (by omega) (by omega))).trans hBt, fun V hV hh2 => ?_⟩
    rw [← hx]
    have hgv : V.heap[g]? = W3.heap[g]? := hV g hgl.1 hgl.2
    have hc := hM V (fun j h1 h2 => (hV j (by omega) (by omega)).trans (hot3 j (by omega))) (by omega)
    rw [show ((k + 1 : Nat) : Int) = (k : Int) + 1 by omega, show ((k + 1 + 3 * t.length : Nat) : Int) = x by omega] at hc
    exact heldSg_one g cg q1 q2 q3 t.length p1 p2 p3 k x V (by omega) (by omega) (by omega) (by omega)
      (by rw [← i0]; simp only [World.cell?]; rw [hgv]) (by rw [← i1]; simp only [World.cell?]; rw [hgv]) (by rw [← i2]; simp only [World.cell?]; rw [hgv]) (by rw [← i3]; simp only [World.cell?]; rw [hgv]) (by rw [← i4]; simp only [World.cell?]; rw [hgv]) hc))
  clear S1 T1 c1 c2 c3 c4 f4
  go_enter Try.func67, Try.ntmps67
  go_wp2
  refine wp_loop_rounds 2 ?_
  rw [rounds_succ]
  have hkI : (k : Int) ≤ 100000 := by omega
  have hLI : (t.length : Int) ≤ 1000 := by omega
  go_upto_region 6 with fail
  rw [← hW1]
  clear hW1 c0 f0 d0 hot1
  go_wp2_with fail
  refine (unhide H1).mono ?_
  rintro e W2 ⟨rfl, hB2, hM⟩
  have hg2 : W2.heap[g]? = W1.heap[g]? := hB2.block g (by omega) (by omega)
  have e2 : W2.cell? ⟨g, 2, none⟩ = some (.slice p2 0 q2) := by rw [← d2]; simp only [World.cell?]; rw [hg2]
  have e3 : W2.cell? ⟨g, 3, none⟩ = some (.slice p3 0 q3) := by rw [← d3]; simp only [World.cell?]; rw [hg2]
  have e4 : W2.cell? ⟨g, 4, none⟩ = some (.int .i64 0) := by rw [← d4]; simp only [World.cell?]; rw [hg2]
  have h4 : W2.frozen? ⟨g, 4, none⟩ = false := by rw [← g4]; simp only [World.frozen?]; rw [hg2]
  have FIN := hide (unhide HF W2 hB2 hM)
  clear HF H1 hM hB2 hg2 d1 d2 d3 d4 g4 HB1
  obtain ⟨x, hx⟩ : ∃ x : Int, x = (k : Int) + 1 + 3 * (t.length : Int) := ⟨_, rfl⟩
  rw [← hx] at FIN ⊢
  have hx1 : 1 ≤ x := by omega
  have hx2 : x ≤ 1000000 := by omega
  clear hx
  have HP := hide (markTrmCellS_none p2 q2 x W2)
  have HQ := hide (markTrmCellS_none p3 q3 x W2)
  go_wp2_with fail
  refine (unhide HP).mono ?_
  rintro e w3 ⟨rfl, rfl⟩
  go_wp2_with fail
  refine (unhide HQ).mono ?_
  rintro e w4 ⟨rfl, rfl⟩
  clear HP HQ
  go_wp2
  rw [rounds_succ]
  go_wp2
  go_ret
  exact unhide FIN
end Go.Proofs.Ytkedckmpjedjoaa

/- Marks in a state of solving at its beginning. -/
namespace Go.Proofs.Ytkedckmpjedjoaa
open Go.RowKit Go.Shelf
set_option linter.unusedVariables false
set_option linter.unusedSimpArgs false

theorem markBinds_nil (a : Option Addr) (c : Nat) (x : Int) (w : World) : Calls Try.prog 68 #[.slice a 0 c, .int .i64 x] w fun e w' => e = .returned (.int .i64 x) ∧ w' = w := by
  go_enter Try.func68, Try.ntmps68
  go_wp2
  refine wp_loop_rounds 1 ?_
  rw [rounds_succ]
  go_wp2
  go_ret
  exact ⟨rfl, rfl⟩
theorem markChoices_nil (a : Option Addr) (c : Nat) (x : Int) (w : World) : Calls Try.prog 69 #[.slice a 0 c, .int .i64 x] w fun e w' => e = .returned (.int .i64 x) ∧ w' = w := by
  go_enter Try.func69, Try.ntmps69
  go_wp2
  refine wp_loop_rounds 1 ?_
  rw [rounds_succ]
  go_wp2
  go_ret
  exact ⟨rfl, rfl⟩
theorem heldBinds_nil (a : Option Addr) (c : Nat) (x : Int) (w : World) : Calls Try.prog 71 #[.slice a 0 c, .int .i64 x] w fun e w' => e = .returned (.int .i64 x) ∧ w' = w := by
  go_enter Try.func71, Try.ntmps71
  go_wp2
  refine wp_loop_rounds 1 ?_
  rw [rounds_succ]
  go_wp2
  go_ret
  exact ⟨rfl, rfl⟩
theorem heldChoices_nil (a : Option Addr) (c : Nat) (x : Int) (w : World) : Calls Try.prog 72 #[.slice a 0 c, .int .i64 x] w fun e w' => e = .returned (.int .i64 x) ∧ w' = w := by
  go_enter Try.func72, Try.ntmps72
  go_wp2
  refine wp_loop_rounds 1 ?_
  rw [rounds_succ]
  go_wp2
  go_ret
  exact ⟨rfl, rfl⟩
theorem markGoals_nil (a : Option Addr) (c : Nat) (x : Int) (w : World) : Calls Try.prog 67 #[.slice a 0 c, .int .i64 x] w fun e w' => e = .returned (.int .i64 x) ∧ w' = w := by
  go_enter Try.func67, Try.ntmps67
  go_wp2
  refine wp_loop_rounds 1 ?_
  rw [rounds_succ]
  go_wp2
  go_ret
  exact ⟨rfl, rfl⟩
theorem heldGoals_nil (a : Option Addr) (c : Nat) (x : Int) (w : World) : Calls Try.prog 70 #[.slice a 0 c, .int .i64 x] w fun e w' => e = .returned (.int .i64 x) ∧ w' = w := by
  go_enter Try.func70, Try.ntmps70
  go_wp2
  refine wp_loop_rounds 1 ?_
  rw [rounds_succ]
  go_wp2
  go_ret
  exact ⟨rfl, rfl⟩

set_option maxRecDepth 100000 in
set_option maxHeartbeats 4000000 in
theorem heldSlvState_gen (s n : Int) (ga ba ha ta oa : Option Addr) (gn gc bc hc tn tc oc : Nat) (k1 k2 : Int) (w : World) (p1 : 0 ≤ k1) (p2 : 0 ≤ k2)
    (HG0 : ∀ V, Below w.heap.size w V → Calls Try.prog 70 #[.slice ga gn gc, .int .i64 1] V fun e w' => e = .returned (.int .i64 k1) ∧ Below V.heap.size V w')
    (HT0 : ∀ V, Below w.heap.size w V → Calls Try.prog 40 #[.slice ta tn tc, .int .i64 k1] V fun e w' => e = .returned (.int .i64 k2) ∧ Below V.heap.size V w') :
    Calls Try.prog 24 #[.agg #[.int .i64 s, .slice ga gn gc, .slice ba 0 bc, .int .i64 n, .slice ha 0 hc, .slice ta tn tc, .slice oa 0 oc], .int .i64 1] w fun e w' => e = .returned (.int .i64 k2) ∧ Below w.heap.size w w' := by
  have hB := cell_below w (.cells #[.int .i64 s, .slice ga gn gc, .slice ba 0 bc, .int .i64 n, .slice ha 0 hc, .slice ta tn tc, .slice oa 0 oc] 43)
  have h1 := World.alloc_heap_new w (.cells #[.int .i64 s, .slice ga gn gc, .slice ba 0 bc, .int .i64 n, .slice ha 0 hc, .slice ta tn tc, .slice oa 0 oc] 43)
  have HG := hide HG0
  have HT := hide HT0
  have n1 : ¬ (k1 < 0) := by omega
  have n2 : ¬ (k2 < 0) := by omega
  clear HG0 HT0
  go_enter Try.func24, Try.ntmps24
  go_upto_region 1 with fail
  generalize w.alloc (.cells #[.int .i64 s, .slice ga gn gc, .slice ba 0 bc, .int .i64 n, .slice ha 0 hc, .slice ta tn tc, .slice oa 0 oc] 43) = w0 at *
  obtain ⟨a0, a1, a2, a3, a4, a5, a6, _⟩ := res7 h1
  have HX := hide (unhide HG w0 hB)
  go_wp2_with fail
  refine (unhide HX).mono ?_
  rintro e w1 ⟨rfl, hb⟩
  clear a0 a1 a2 a3 a4 a5 a6 HX
  replace h1 := (hb.block _ (Array.getElem?_eq_some_iff.1 h1).1).trans h1
  replace hB := bstep hB hb
  clear hb
  obtain ⟨a0, a1, a2, a3, a4, a5, a6, _⟩ := res7 h1
  have HX := hide (heldBinds_nil ba bc k1 w1)
  go_wp2_with fail
  refine (unhide HX).mono ?_
  rintro e w2 ⟨rfl, rfl⟩
  clear HX
  have HX := hide (heldChoices_nil ha hc k1 w2)
  go_wp2_with fail
  refine (unhide HX).mono ?_
  rintro e w3 ⟨rfl, rfl⟩
  clear HX
  have HX := hide (unhide HT w3 hB)
  go_wp2_with fail
  refine (unhide HX).mono ?_
  rintro e w4 ⟨rfl, hb⟩
  clear a0 a1 a2 a3 a4 a5 a6 HX
  replace h1 := (hb.block _ (Array.getElem?_eq_some_iff.1 h1).1).trans h1
  replace hB := bstep hB hb
  clear hb
  obtain ⟨a0, a1, a2, a3, a4, a5, a6, _⟩ := res7 h1
  have HX := hide (heldTrmCellS_none oa oc k2 w4)
  go_wp2_with fail
  refine (unhide HX).mono ?_
  rintro e w5 ⟨rfl, rfl⟩
  clear HX h1
  go_wp2
  go_ret
  exact ⟨rfl, hB⟩

set_option maxRecDepth 100000 in
set_option maxHeartbeats 4000000 in
theorem markSlvState_gen (s n : Int) (ga ba ha ta oa : Option Addr) (gn gc bc hc tn tc oc : Nat) (k1 k2 : Int) (lo hi : Nat) (QG QT : World → Prop) (w : World) (hh : hi ≤ w.heap.size)
    (HG0 : ∀ V, Below w.heap.size w V → Calls Try.prog 67 #[.slice ga gn gc, .int .i64 1] V fun e w' => e = .returned (.int .i64 k1) ∧ Btw lo hi V w' ∧ QG w')
    (HT0 : ∀ V, hi ≤ V.heap.size → QG V → Calls Try.prog 22 #[.slice ta tn tc, .int .i64 k1] V fun e w' => e = .returned (.int .i64 k2) ∧ Btw lo hi V w' ∧ QT w') :
    Calls Try.prog 23 #[.agg #[.int .i64 s, .slice ga gn gc, .slice ba 0 bc, .int .i64 n, .slice ha 0 hc, .slice ta tn tc, .slice oa 0 oc], .int .i64 1] w fun e w' => e = .returned (.int .i64 k2) ∧ Btw lo hi w w' ∧ QT w' := by
  have hb0 := cell_below w (.cells #[.int .i64 s, .slice ga gn gc, .slice ba 0 bc, .int .i64 n, .slice ha 0 hc, .slice ta tn tc, .slice oa 0 oc] 43)
  have h1 := World.alloc_heap_new w (.cells #[.int .i64 s, .slice ga gn gc, .slice ba 0 bc, .int .i64 n, .slice ha 0 hc, .slice ta tn tc, .slice oa 0 oc] 43)
  have HG := hide HG0
  have HT := hide HT0
  clear HG0 HT0
  go_enter Try.func23, Try.ntmps23
  go_upto_region 1 with fail
  generalize w.alloc (.cells #[.int .i64 s, .slice ga gn gc, .slice ba 0 bc, .int .i64 n, .slice ha 0 hc, .slice ta tn tc, .slice oa 0 oc] 43) = w0 at *
  obtain ⟨a0, a1, a2, a3, a4, a5, a6, _⟩ := res7 h1
  have HX := hide (unhide HG w0 hb0)
  have hB : Btw lo hi w w0 := Btw.of_below hb0
  clear hb0
  go_wp2_with fail
  refine (unhide HX).mono ?_
  rintro e w1 ⟨rfl, hb, hq⟩
  clear a0 a1 a2 a3 a4 a5 a6 HX
  replace h1 := (hb.block _ (Array.getElem?_eq_some_iff.1 h1).1 (.inr hh)).trans h1
  replace hB := hB.trans hb
  have hz1 := hB.size
  clear hb
  obtain ⟨a0, a1, a2, a3, a4, a5, a6, _⟩ := res7 h1
  have HX := hide (markBinds_nil ba bc k1 w1)
  go_wp2_with fail
  refine (unhide HX).mono ?_
  rintro e w2 ⟨rfl, rfl⟩
  clear HX
  have HX := hide (markChoices_nil ha hc k1 w2)
  go_wp2_with fail
  refine (unhide HX).mono ?_
  rintro e w3 ⟨rfl, rfl⟩
  clear HX
  have HX := hide (unhide HT w3 (Nat.le_trans hh hz1) hq)
  clear hq
  go_wp2_with fail
  refine (unhide HX).mono ?_
  rintro e w4 ⟨rfl, hb, hq⟩
  clear a0 a1 a2 a3 a4 a5 a6 HX
  replace h1 := (hb.block _ (Array.getElem?_eq_some_iff.1 h1).1 (.inr hh)).trans h1
  replace hB := hB.trans hb
  clear hb
  obtain ⟨a0, a1, a2, a3, a4, a5, a6, _⟩ := res7 h1
  have HX := hide (markTrmCellS_none oa oc k2 w4)
  have HQ := hide hq
  clear hq
  go_wp2_with fail
  refine (unhide HX).mono ?_
  rintro e w5 ⟨rfl, rfl⟩
  clear HX h1
  go_wp2
  go_ret
  exact ⟨rfl, hB, unhide HQ⟩
end Go.Proofs.Ytkedckmpjedjoaa
