import Derived.Test.YtkedckmpjedjoaaQTN1
import Derived.Test.YtkedckmpjedjoaaQSN15SN16
/- States of the second machine at their beginning: the same, marked, held. -/
namespace Go.Proofs.Ytkedckmpjedjoaa
open Go.RowKit Go.Shelf
set_option linter.unusedVariables false
set_option linter.unusedSimpArgs false

theorem eqTChoices_nil (a a' : Option Addr) (c c' : Nat) (w : World) : Calls Try.prog 83 #[.slice a 0 c, .slice a' 0 c'] w fun e w' => e = .returned (.bool true) ∧ w' = w := by
  go_enter Try.func83, Try.ntmps83
  go_wp2
  refine wp_loop_rounds 1 ?_
  rw [rounds_succ]
  go_wp2
  go_ret
  exact ⟨rfl, rfl⟩
set_option maxRecDepth 100000 in
set_option maxHeartbeats 4000000 in
theorem eqTrlState_gen (s n : Int) (ga ga' ba ba' ha ha' ta ta' oa oa' : Option Addr) (gn gc gc' bc bc' hc hc' tc tc' oc oc' : Nat) (t : List C) (w : World)
    (hm : t.length ≤ maxLen) (hT : Row w ta t) (hT' : Row w ta' t)
    (HG0 : ∀ W, Below w.heap.size w W → Calls Try.prog 62 #[.slice ga gn gc, .slice ga' gn gc'] W fun e w' => e = .returned (.bool true) ∧ Below W.heap.size W w') :
    Calls Try.prog 32 #[.agg #[.int .i64 s, .slice ga gn gc, .slice ba 0 bc, .int .i64 n, .slice ha 0 hc, .slice ta t.length tc, .slice oa 0 oc], .agg #[.int .i64 s, .slice ga' gn gc', .slice ba' 0 bc', .int .i64 n, .slice ha' 0 hc', .slice ta' t.length tc', .slice oa' 0 oc']] w fun e w' => e = .returned (.bool true) ∧ Below w.heap.size w w' := by
  have hb0 := cell_below w (.cells #[.int .i64 s, .slice ga gn gc, .slice ba 0 bc, .int .i64 n, .slice ha 0 hc, .slice ta t.length tc, .slice oa 0 oc] 55)
  have h0 := World.alloc_heap_new w (.cells #[.int .i64 s, .slice ga gn gc, .slice ba 0 bc, .int .i64 n, .slice ha 0 hc, .slice ta t.length tc, .slice oa 0 oc] 55)
  have hsz : (w.alloc (.cells #[.int .i64 s, .slice ga gn gc, .slice ba 0 bc, .int .i64 n, .slice ha 0 hc, .slice ta t.length tc, .slice oa 0 oc] 55)).heap.size = w.heap.size + 1 := by simp
  have hb1 := cell_below (w.alloc (.cells #[.int .i64 s, .slice ga gn gc, .slice ba 0 bc, .int .i64 n, .slice ha 0 hc, .slice ta t.length tc, .slice oa 0 oc] 55)) (.cells #[.int .i64 s, .slice ga' gn gc', .slice ba' 0 bc', .int .i64 n, .slice ha' 0 hc', .slice ta' t.length tc', .slice oa' 0 oc'] 55)
  have h1 := (hb1.block w.heap.size (by omega)).trans h0
  have h2 := World.alloc_heap_new (w.alloc (.cells #[.int .i64 s, .slice ga gn gc, .slice ba 0 bc, .int .i64 n, .slice ha 0 hc, .slice ta t.length tc, .slice oa 0 oc] 55)) (.cells #[.int .i64 s, .slice ga' gn gc', .slice ba' 0 bc', .int .i64 n, .slice ha' 0 hc', .slice ta' t.length tc', .slice oa' 0 oc'] 55)
  rw [hsz] at h2
  have hB := bstep hb0 hb1
  have HG := hide HG0
  have HT := hide (And.intro hT hT')
  have en : (n != n) = false := by simp
  have es : (s != s) = false := by simp
  clear HG0 hT hT' h0 hb0 hb1 hsz
  go_enter Try.func32, Try.ntmps32
  go_upto_region 1 with fail
  generalize (w.alloc (.cells #[.int .i64 s, .slice ga gn gc, .slice ba 0 bc, .int .i64 n, .slice ha 0 hc, .slice ta t.length tc, .slice oa 0 oc] 55)).alloc (.cells #[.int .i64 s, .slice ga' gn gc', .slice ba' 0 bc', .int .i64 n, .slice ha' 0 hc', .slice ta' t.length tc', .slice oa' 0 oc'] 55) = w0 at *
  obtain ⟨a0, a1, a2, a3, a4, a5, a6, _⟩ := res7 h1
  obtain ⟨b0, b1, b2, b3, b4, b5, b6, _⟩ := res7 h2
  have HX := hide (unhide HG w0 hB)
  go_wp2_with fail
  refine (unhide HX).mono ?_
  rintro e w1 ⟨rfl, hb⟩
  clear a0 a1 a2 a3 a4 a5 a6 b0 b1 b2 b3 b4 b5 b6 HX
  replace h1 := (hb.block _ (Array.getElem?_eq_some_iff.1 h1).1).trans h1
  replace h2 := (hb.block _ (Array.getElem?_eq_some_iff.1 h2).1).trans h2
  replace hB := bstep hB hb
  clear hb
  obtain ⟨a0, a1, a2, a3, a4, a5, a6, _⟩ := res7 h1
  obtain ⟨b0, b1, b2, b3, b4, b5, b6, _⟩ := res7 h2
  have HX := hide (eqBinds_nil ba ba' bc bc' w1)
  go_wp2_with fail
  refine (unhide HX).mono ?_
  rintro e w2 ⟨rfl, rfl⟩
  clear HX
  have HX := hide (eqTChoices_nil ha ha' hc hc' w2)
  go_wp2_with fail
  refine (unhide HX).mono ?_
  rintro e w3 ⟨rfl, rfl⟩
  clear HX
  have HX := hide ((sameS_self t) ▸ eqTrmCellS_any ta ta' tc tc' t t w3 hm ((unhide HT).1.below hB) ((unhide HT).2.below hB))
  go_wp2_with fail
  refine (unhide HX).mono ?_
  rintro e w4 ⟨rfl, hb⟩
  clear a0 a1 a2 a3 a4 a5 a6 b0 b1 b2 b3 b4 b5 b6 HX
  replace h1 := (hb.block _ (Array.getElem?_eq_some_iff.1 h1).1).trans h1
  replace h2 := (hb.block _ (Array.getElem?_eq_some_iff.1 h2).1).trans h2
  replace hB := bstep hB hb
  clear hb
  obtain ⟨a0, a1, a2, a3, a4, a5, a6, _⟩ := res7 h1
  obtain ⟨b0, b1, b2, b3, b4, b5, b6, _⟩ := res7 h2
  have HX := hide ((sameS_self ([] : List C)) ▸ eqTrmCellS_any oa oa' oc oc' [] [] w4 (Nat.zero_le _) (.inl rfl) (.inl rfl))
  go_wp2_with fail
  refine (unhide HX).mono ?_
  rintro e w5 ⟨rfl, hb⟩
  clear a0 a1 a2 a3 a4 a5 a6 b0 b1 b2 b3 b4 b5 b6 HX
  replace h1 := (hb.block _ (Array.getElem?_eq_some_iff.1 h1).1).trans h1
  replace h2 := (hb.block _ (Array.getElem?_eq_some_iff.1 h2).1).trans h2
  replace hB := bstep hB hb
  clear hb
  obtain ⟨a0, a1, a2, a3, a4, a5, a6, _⟩ := res7 h1
  obtain ⟨b0, b1, b2, b3, b4, b5, b6, _⟩ := res7 h2
  clear h1 h2
  go_wp2
  go_ret
  exact ⟨rfl, hB⟩
theorem markTChoices_nil (a : Option Addr) (c : Nat) (x : Int) (w : World) : Calls Try.prog 84 #[.slice a 0 c, .int .i64 x] w fun e w' => e = .returned (.int .i64 x) ∧ w' = w := by
  go_enter Try.func84, Try.ntmps84
  go_wp2
  refine wp_loop_rounds 1 ?_
  rw [rounds_succ]
  go_wp2
  go_ret
  exact ⟨rfl, rfl⟩
theorem heldTChoices_nil (a : Option Addr) (c : Nat) (x : Int) (w : World) : Calls Try.prog 85 #[.slice a 0 c, .int .i64 x] w fun e w' => e = .returned (.int .i64 x) ∧ w' = w := by
  go_enter Try.func85, Try.ntmps85
  go_wp2
  refine wp_loop_rounds 1 ?_
  rw [rounds_succ]
  go_wp2
  go_ret
  exact ⟨rfl, rfl⟩
set_option maxRecDepth 100000 in
set_option maxHeartbeats 4000000 in
theorem heldTrlState_gen (s n : Int) (ga ba ha ta oa : Option Addr) (gn gc bc hc tn tc oc : Nat) (k1 k2 : Int) (w : World) (p1 : 0 ≤ k1) (p2 : 0 ≤ k2)
    (HG0 : ∀ V, Below w.heap.size w V → Calls Try.prog 70 #[.slice ga gn gc, .int .i64 1] V fun e w' => e = .returned (.int .i64 k1) ∧ Below V.heap.size V w')
    (HT0 : ∀ V, Below w.heap.size w V → Calls Try.prog 40 #[.slice ta tn tc, .int .i64 k1] V fun e w' => e = .returned (.int .i64 k2) ∧ Below V.heap.size V w') :
    Calls Try.prog 34 #[.agg #[.int .i64 s, .slice ga gn gc, .slice ba 0 bc, .int .i64 n, .slice ha 0 hc, .slice ta tn tc, .slice oa 0 oc], .int .i64 1] w fun e w' => e = .returned (.int .i64 k2) ∧ Below w.heap.size w w' := by
  have hB := cell_below w (.cells #[.int .i64 s, .slice ga gn gc, .slice ba 0 bc, .int .i64 n, .slice ha 0 hc, .slice ta tn tc, .slice oa 0 oc] 55)
  have h1 := World.alloc_heap_new w (.cells #[.int .i64 s, .slice ga gn gc, .slice ba 0 bc, .int .i64 n, .slice ha 0 hc, .slice ta tn tc, .slice oa 0 oc] 55)
  have HG := hide HG0
  have HT := hide HT0
  have n1 : ¬ (k1 < 0) := by omega
  have n2 : ¬ (k2 < 0) := by omega
  clear HG0 HT0
  go_enter Try.func34, Try.ntmps34
  go_upto_region 1 with fail
  generalize w.alloc (.cells #[.int .i64 s, .slice ga gn gc, .slice ba 0 bc, .int .i64 n, .slice ha 0 hc, .slice ta tn tc, .slice oa 0 oc] 55) = w0 at *
  obtain ⟨a0, a1, a2, a3, a4, a5, a6, _⟩ := res7 h1
  have HX := hide (unhide HG w0 hB)
  go_wp2_with fail
  refine (unhide HX).mono ?_
  rintro e w1 ⟨rfl, hb⟩
  clear a0 a1 a2 a3 a4 a5 a6 HX
  replace h1 := (hb.block _ (Array.getElem?_eq_some_iff.1 h1).1).trans h1
  replace hB := bstep hB hb
  clear hb
  obtain ⟨a0, a1, a2, a3, a4, a5, a6, _⟩ := res7 h1
  have HX := hide (heldBinds_nil ba bc k1 w1)
  go_wp2_with fail
  refine (unhide HX).mono ?_
  rintro e w2 ⟨rfl, rfl⟩
  clear HX
  have HX := hide (heldTChoices_nil ha hc k1 w2)
  go_wp2_with fail
  refine (unhide HX).mono ?_
  rintro e w3 ⟨rfl, rfl⟩
  clear HX
  have HX := hide (unhide HT w3 hB)
  go_wp2_with fail
  refine (unhide HX).mono ?_
  rintro e w4 ⟨rfl, hb⟩
  clear a0 a1 a2 a3 a4 a5 a6 HX
  replace h1 := (hb.block _ (Array.getElem?_eq_some_iff.1 h1).1).trans h1
  replace hB := bstep hB hb
  clear hb
  obtain ⟨a0, a1, a2, a3, a4, a5, a6, _⟩ := res7 h1
  have HX := hide (heldTrmCellS_none oa oc k2 w4)
  go_wp2_with fail
  refine (unhide HX).mono ?_
  rintro e w5 ⟨rfl, rfl⟩
  clear HX h1
  go_wp2
  go_ret
  exact ⟨rfl, hB⟩
set_option maxRecDepth 100000 in
set_option maxHeartbeats 4000000 in
theorem markTrlState_gen (s n : Int) (ga ba ha ta oa : Option Addr) (gn gc bc hc tn tc oc : Nat) (k1 k2 : Int) (lo hi : Nat) (QG QT : World → Prop) (w : World) (hh : hi ≤ w.heap.size)
    (HG0 : ∀ V, Below w.heap.size w V → Calls Try.prog 67 #[.slice ga gn gc, .int .i64 1] V fun e w' => e = .returned (.int .i64 k1) ∧ Btw lo hi V w' ∧ QG w')
    (HT0 : ∀ V, hi ≤ V.heap.size → QG V → Calls Try.prog 22 #[.slice ta tn tc, .int .i64 k1] V fun e w' => e = .returned (.int .i64 k2) ∧ Btw lo hi V w' ∧ QT w') :
    Calls Try.prog 33 #[.agg #[.int .i64 s, .slice ga gn gc, .slice ba 0 bc, .int .i64 n, .slice ha 0 hc, .slice ta tn tc, .slice oa 0 oc], .int .i64 1] w fun e w' => e = .returned (.int .i64 k2) ∧ Btw lo hi w w' ∧ QT w' := by
  have hb0 := cell_below w (.cells #[.int .i64 s, .slice ga gn gc, .slice ba 0 bc, .int .i64 n, .slice ha 0 hc, .slice ta tn tc, .slice oa 0 oc] 55)
  have h1 := World.alloc_heap_new w (.cells #[.int .i64 s, .slice ga gn gc, .slice ba 0 bc, .int .i64 n, .slice ha 0 hc, .slice ta tn tc, .slice oa 0 oc] 55)
  have HG := hide HG0
  have HT := hide HT0
  clear HG0 HT0
  go_enter Try.func33, Try.ntmps33
  go_upto_region 1 with fail
  generalize w.alloc (.cells #[.int .i64 s, .slice ga gn gc, .slice ba 0 bc, .int .i64 n, .slice ha 0 hc, .slice ta tn tc, .slice oa 0 oc] 55) = w0 at *
  obtain ⟨a0, a1, a2, a3, a4, a5, a6, _⟩ := res7 h1
  have HX := hide (unhide HG w0 hb0)
  have hB : Btw lo hi w w0 := Btw.of_below hb0
  clear hb0
  go_wp2_with fail
  refine (unhide HX).mono ?_
  rintro e w1 ⟨rfl, hb, hq⟩
  clear a0 a1 a2 a3 a4 a5 a6 HX
  replace h1 := (hb.block _ (Array.getElem?_eq_some_iff.1 h1).1 (.inr hh)).trans h1
  replace hB := hB.trans hb
  have hz1 := hB.size
  clear hb
  obtain ⟨a0, a1, a2, a3, a4, a5, a6, _⟩ := res7 h1
  have HX := hide (markBinds_nil ba bc k1 w1)
  go_wp2_with fail
  refine (unhide HX).mono ?_
  rintro e w2 ⟨rfl, rfl⟩
  clear HX
  have HX := hide (markTChoices_nil ha hc k1 w2)
  go_wp2_with fail
  refine (unhide HX).mono ?_
  rintro e w3 ⟨rfl, rfl⟩
  clear HX
  have HX := hide (unhide HT w3 (Nat.le_trans hh hz1) hq)
  clear hq
  go_wp2_with fail
  refine (unhide HX).mono ?_
  rintro e w4 ⟨rfl, hb, hq⟩
  clear a0 a1 a2 a3 a4 a5 a6 HX
  replace h1 := (hb.block _ (Array.getElem?_eq_some_iff.1 h1).1 (.inr hh)).trans h1
  replace hB := hB.trans hb
  clear hb
  obtain ⟨a0, a1, a2, a3, a4, a5, a6, _⟩ := res7 h1
  have HX := hide (markTrmCellS_none oa oc k2 w4)
  have HQ := hide hq
  clear hq
  go_wp2_with fail
  refine (unhide HX).mono ?_
  rintro e w5 ⟨rfl, rfl⟩
  clear HX h1
  go_wp2
  go_ret
  exact ⟨rfl, hB, unhide HQ⟩
end Go.Proofs.Ytkedckmpjedjoaa

/- What a walk takes of them. -/
namespace Go.Proofs.Ytkedckmpjedjoaa
open Go.RowKit Go.Shelf
set_option linter.unusedVariables false
set_option linter.unusedSimpArgs false

set_option maxRecDepth 100000 in
theorem eq8 (t : List C) (hF : Fit t) (f f' : F7) (V : World) (h : Rd7 t f V) (h' : Rd7 t f' V) :
    Calls Try.prog 32 #[.agg #[.int .i64 f.s, .slice f.ga f.gn f.gc, .slice f.ba 0 f.bc, .int .i64 f.n, .slice f.ha 0 f.hc, .slice f.ta f.tn f.tc, .slice f.oa 0 f.oc], .agg #[.int .i64 f'.s, .slice f'.ga f'.gn f'.gc, .slice f'.ba 0 f'.bc, .int .i64 f'.n, .slice f'.ha 0 f'.hc, .slice f'.ta f'.tn f'.tc, .slice f'.oa 0 f'.oc]] V fun e w' => e = .returned (.bool true) ∧ Below V.heap.size V w' := by
  rcases h with ⟨h0, rfl⟩ | ⟨h0, h1, h2, h3, h4, h5, g, pa, pb, pc, px, py, pz, e, hr, c0, c1, c2, c3, c4⟩
  · rcases h' with ⟨_, rfl⟩ | ⟨h0', _⟩
    · exact eqTrlState_gen 0 0 none none none none none none none none none none 0 0 0 0 0 0 0 0 0 0 0 [] V (Nat.zero_le _) (.inl rfl) (.inl rfl) (fun W hW => eqGoals_nil none none 0 0 W)
    · rw [h0] at h0'; cases h0'
  · rcases h' with ⟨h0', _⟩ | ⟨_, h1', h2', h3', h4', h5', g', pa', pb', pc', px', py', pz', e', hr', c0', c1', c2', c3', c4'⟩
    · rw [h0] at h0'; cases h0'
    · rw [h1, h2, h3, h4, e, h1', h2', h3', h4', e']
      refine eqTrlState_gen 1 ((freeOf t).length : Int) (some ⟨g, 0, none⟩) (some ⟨g', 0, none⟩) _ _ _ _ _ _ _ _ 1 _ _ _ _ _ _ _ _ _ _ t V (by have := top_len h0; unfold maxLen; omega) h5 h5' (fun W hW => ?_)
      have lg : g < V.heap.size := World.block_lt_of_cell? V ⟨_, _, none⟩ c0
      have lg' : g' < V.heap.size := World.block_lt_of_cell? V ⟨_, _, none⟩ c0'
      exact eqSg_one g g' _ _ pa pb pc pa' pb' pc' px py pz px' py' pz' t W ((trip_one hr hF h0 pb pc).below hW) ((trip_one hr' hF h0 pb' pc').below hW)
        ((hW.cell (p := ⟨g, 0, none⟩) lg).trans c0) ((hW.cell (p := ⟨g, 1, none⟩) lg).trans c1) ((hW.cell (p := ⟨g, 2, none⟩) lg).trans c2) ((hW.cell (p := ⟨g, 3, none⟩) lg).trans c3) ((hW.cell (p := ⟨g, 4, none⟩) lg).trans c4)
        ((hW.cell (p := ⟨g', 0, none⟩) lg').trans c0') ((hW.cell (p := ⟨g', 1, none⟩) lg').trans c1') ((hW.cell (p := ⟨g', 2, none⟩) lg').trans c2') ((hW.cell (p := ⟨g', 3, none⟩) lg').trans c3') ((hW.cell (p := ⟨g', 4, none⟩) lg').trans c4')
def Mk8 (lo hi : Nat) (t : List C) (f : F7) (V : World) : Prop := ∀ W, Agree lo hi V W → hi ≤ W.heap.size → Calls Try.prog 34 #[.agg #[.int .i64 f.s, .slice f.ga f.gn f.gc, .slice f.ba 0 f.bc, .int .i64 f.n, .slice f.ha 0 f.hc, .slice f.ta f.tn f.tc, .slice f.oa 0 f.oc], .int .i64 1] W fun e w' => e = .returned (.int .i64 (cnt7 t)) ∧ Below W.heap.size W w'
theorem Mk8.kept {lo hi : Nat} {t : List C} {f : F7} {V V' : World} (h : Mk8 lo hi t f V) (hk : Agree lo hi V V') : Mk8 lo hi t f V' := fun W hW hh => h W (hk.trans hW) hh
set_option maxRecDepth 100000 in
theorem mark8 (lo hi : Nat) (t : List C) (f : F7) (V : World) (h : Own7 lo hi t f V) (hh : hi ≤ V.heap.size) :
    Calls Try.prog 33 #[.agg #[.int .i64 f.s, .slice f.ga f.gn f.gc, .slice f.ba 0 f.bc, .int .i64 f.n, .slice f.ha 0 f.hc, .slice f.ta f.tn f.tc, .slice f.oa 0 f.oc], .int .i64 1] V fun e V' => e = .returned (.int .i64 (cnt7 t)) ∧ Btw lo hi V V' ∧ Mk8 lo hi t f V' := by
  rcases h with ⟨h0, rfl⟩ | ⟨h0, h1, h2, h3, h4, g, m, e, l1, l2, hS, hC⟩
  · have hc : cnt7 t = 1 := by unfold cnt7; rw [h0]; rfl
    rw [hc]
    refine (markTrlState_gen 0 0 none none none none none 0 0 0 0 0 0 0 1 1 lo hi (fun _ => True) (fun _ => True) V hh (fun W hW => (markGoals_nil none 0 1 W).mono ?_) (fun W _ _ => (markTrmCellS_none none 0 1 W).mono ?_)).mono ?_
    · rintro e w' ⟨rfl, rfl⟩; exact ⟨rfl, Btw.refl _ _ _, trivial⟩
    · rintro e w' ⟨rfl, rfl⟩; exact ⟨rfl, Btw.refl _ _ _, trivial⟩
    · rintro e w' ⟨rfl, hb, _⟩
      refine ⟨rfl, hb, fun W hW hh2 => ?_⟩
      rw [hc]
      exact heldTrlState_gen 0 0 none none none none none 0 0 0 0 0 0 0 1 1 W (by omega) (by omega) (fun U hU => (heldGoals_nil none 0 1 U).mono (by rintro e w' ⟨rfl, rfl⟩; exact ⟨rfl, Below.refl _ _⟩)) (fun U hU => (heldTrmCellS_none none 0 1 U).mono (by rintro e w' ⟨rfl, rfl⟩; exact ⟨rfl, Below.refl _ _⟩))
  · have hl := top_len h0
    have hc : cnt7 t = 3 + 6 * (t.length : Int) := by unfold cnt7; rw [h0]; rfl
    rw [hc, h1, h2, h3, h4, e]
    refine (markTrlState_gen 1 ((freeOf t).length : Int) (some ⟨g, 0, none⟩) _ _ _ _ 1 _ _ _ t.length _ _ (3 + 3 * (t.length : Int)) (3 + 6 * (t.length : Int)) lo hi
      (fun W => (∀ U, Agree lo m W U → m ≤ U.heap.size → Calls Try.prog 70 #[.slice (some ⟨g, 0, none⟩) 1 f.gc, .int .i64 1] U fun e w'' => e = .returned (.int .i64 (3 + 3 * (t.length : Int))) ∧ Below U.heap.size U w'') ∧ SegC m hi W (.slice f.ta t.length f.tc) t)
      (fun W => (∀ U, Agree lo m W U → m ≤ U.heap.size → Calls Try.prog 70 #[.slice (some ⟨g, 0, none⟩) 1 f.gc, .int .i64 1] U fun e w'' => e = .returned (.int .i64 (3 + 3 * (t.length : Int))) ∧ Below U.heap.size U w'') ∧ (∀ U, Agree m hi W U → hi ≤ U.heap.size → Calls Try.prog 40 #[.slice f.ta t.length f.tc, .int .i64 (3 + 3 * (t.length : Int))] U fun e w'' => e = .returned (.int .i64 (3 + 6 * (t.length : Int))) ∧ Below U.heap.size U w'')) V hh (fun W hW => ?_) (fun W hWs hQ => ?_)).mono ?_
    · have hk := Agree.below (lo := lo) (hi := hi) hW hh
      have hm := markSg_one lo m g f.gc 1 t W (hS.kept (esg_keeps t) (hk.sub (Nat.le_refl _) l2)) (by have := hW.size; omega) (by omega) (by omega) (by omega)
      rw [show ((1 : Nat) : Int) = 1 from rfl] at hm
      refine hm.mono ?_
      rintro e w' ⟨rfl, hb, hH⟩
      refine ⟨by congr 2; omega, hb.wide (Nat.le_refl _) l2, fun U hU hh2 => ?_, (hC.kept (hk.sub l1 (Nat.le_refl _))).kept (hb.agree (by have := hW.size; omega) (.inr (Nat.le_refl _)))⟩
      have := hH U hU hh2
      rw [show (1 : Int) + 1 + 3 * (t.length : Int) + 1 = 3 + 3 * (t.length : Int) by omega] at this
      exact this
    · obtain ⟨hH, hC2⟩ := hQ
      have hm := markC_any m hi (.slice f.ta t.length f.tc) t (3 + 3 * t.length) W hC2 (by omega) (by omega) (by omega)
      rw [show ((3 + 3 * t.length : Nat) : Int) = 3 + 3 * (t.length : Int) by omega] at hm
      refine hm.mono ?_
      rintro e w' ⟨rfl, hb, hM⟩
      refine ⟨by congr 2; omega, hb.wide l1 (Nat.le_refl _), fun U hU hh2 => hH U ((hb.agree (by omega) (.inl (Nat.le_refl _))).trans hU) hh2, fun U hU hh2 => ?_⟩
      have := hM U hU hh2
      rw [show ((3 + 3 * t.length : Nat) : Int) = 3 + 3 * (t.length : Int) by omega, show ((3 + 3 * t.length + 3 * t.length : Nat) : Int) = 3 + 6 * (t.length : Int) by omega] at this
      exact this
    · rintro e1 w' ⟨rfl, hb, hH, hM⟩
      refine ⟨rfl, hb, fun W hW hh2 => ?_⟩
      rw [hc, h1, h2, h3, h4, e]
      exact heldTrlState_gen 1 ((freeOf t).length : Int) (some ⟨g, 0, none⟩) _ _ _ _ 1 _ _ _ t.length _ _ (3 + 3 * (t.length : Int)) (3 + 6 * (t.length : Int)) W (by omega) (by omega)
        (fun U hU => hH U ((hW.sub (Nat.le_refl _) l2).trans (Agree.below hU (by omega))) (by have := hU.size; omega)) (fun U hU => hM U ((hW.sub l1 (Nat.le_refl _)).trans (Agree.below hU hh2)) (by have := hU.size; omega))
end Go.Proofs.Ytkedckmpjedjoaa
