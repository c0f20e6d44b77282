import Derived.Test.YtkedckmpjedjoaaQTN2TN3
import Derived.Test.YtkedckmpjedjoaaQW18GI6GI6call
import Derived.Deep.RegionHeld3
import Derived.Test.YtkedckmpjedjoaaQOpen2D1D2D3D4D5D6PX1YMYW1TXSTXRYB1YB2YB3RR5
import Derived.Deep.MidRow
import Derived.WalkSpells
import Derived.Test.YtkedckmpjedjoaaQSN4SN5SN6SN7SN8SN9
import Derived.Test.YtkedckmpjedjoaaQSN13SN14SB2
import Derived.Deep.WholeRow
/- States at their beginning compared as the laws with draws compare them. -/
namespace Go.Proofs.Ytkedckmpjedjoaa
open Go.RowKit Go.Shelf
set_option linter.unusedVariables false
set_option linter.unusedSimpArgs false

theorem res4b {W : World} {R : Nat} {T : TypeId} {x0 x1 x2 x3 : Value} (h : W.heap[R]? = some (.cells #[x0, x1, x2, x3] T)) :
    W.cell? ⟨R, 0, none⟩ = some x0 ∧ W.cell? ⟨R, 1, none⟩ = some x1 ∧ W.cell? ⟨R, 2, none⟩ = some x2 ∧ W.cell? ⟨R, 3, none⟩ = some x3 := by
  simp [World.cell?, h]
theorem caTerm_same (ao bo : Option Addr) (c c' : Nat) (t : List C) (w : World) (hm : t.length ≤ maxLen) (hA : Row w ao t) (hB : Row w bo t) :
    Calls Try.prog 78 #[.slice ao t.length c, .slice bo t.length c'] w fun e w' => e = .returned (.bool true) ∧ Below w.heap.size w w' := by
  have h := caTerm_any ao bo c c' t t w hm hA hB
  rw [sameS_self] at h
  exact h
theorem caTerm_nil (ao bo : Option Addr) (c c' : Nat) (w : World) :
    Calls Try.prog 78 #[.slice ao 0 c, .slice bo 0 c'] w fun e w' => e = .returned (.bool true) ∧ Below w.heap.size w w' :=
  caTerm_same ao bo c c' [] w (Nat.zero_le _) (.inl rfl) (.inl rfl)
theorem caBinds_nil (ao bo : Option Addr) (c c' : Nat) (w : World) :
    Calls Try.prog 77 #[.slice ao 0 c, .slice bo 0 c'] w fun e w' => e = .returned (.bool true) ∧ w' = w := by
  go_enter Try.func77, Try.ntmps77
  go_wp2
  refine wp_loop_rounds 1 ?_
  rw [rounds_succ]
  go_wp2
  go_ret
  exact ⟨rfl, rfl⟩
theorem caGoals_nil (ao bo : Option Addr) (c c' : Nat) (w : World) :
    Calls Try.prog 76 #[.slice ao 0 c, .slice bo 0 c'] w fun e w' => e = .returned (.bool true) ∧ Below w.heap.size w w' := by
  go_enter Try.func76, Try.ntmps76
  go_wp2
  refine wp_loop_rounds 1 ?_
  rw [rounds_succ]
  go_wp2
  go_ret
  exact ⟨rfl, Below.refl _ _⟩

set_option maxRecDepth 100000 in
set_option maxHeartbeats 4000000 in
theorem caGoal_one (pa pb pc qa qb qc : Option Addr) (px py pz qx qy qz : Nat) (t : List C) (w : World) (hm : t.length ≤ maxLen) (hp : Row w pa t) (hq : Row w qa t) :
    Calls Try.prog 127 #[.agg #[.int .i64 1, .slice pa t.length px, .slice pb 0 py, .slice pc 0 pz], .agg #[.int .i64 1, .slice qa t.length qx, .slice qb 0 qy, .slice qc 0 qz]] w fun e w' => e = .returned (.bool true) ∧ Below w.heap.size w w' := by
  have hb0 := cell_below w (.cells #[.int .i64 1, .slice pa t.length px, .slice pb 0 py, .slice pc 0 pz] 93)
  have h0 := World.alloc_heap_new w (.cells #[.int .i64 1, .slice pa t.length px, .slice pb 0 py, .slice pc 0 pz] 93)
  have hsz : (w.alloc (.cells #[.int .i64 1, .slice pa t.length px, .slice pb 0 py, .slice pc 0 pz] 93)).heap.size = w.heap.size + 1 := by simp
  have hb1 := cell_below (w.alloc (.cells #[.int .i64 1, .slice pa t.length px, .slice pb 0 py, .slice pc 0 pz] 93)) (.cells #[.int .i64 1, .slice qa t.length qx, .slice qb 0 qy, .slice qc 0 qz] 93)
  have h1 := (hb1.block w.heap.size (by omega)).trans h0
  have h2 := World.alloc_heap_new (w.alloc (.cells #[.int .i64 1, .slice pa t.length px, .slice pb 0 py, .slice pc 0 pz] 93)) (.cells #[.int .i64 1, .slice qa t.length qx, .slice qb 0 qy, .slice qc 0 qz] 93)
  rw [hsz] at h2
  have hB := bstep hb0 hb1
  have HP := hide (And.intro hp hq)
  clear h0 hb0 hb1 hsz hp hq
  go_enter Try.func127, Try.ntmps127
  go_upto_region 1 with fail
  generalize (w.alloc (.cells #[.int .i64 1, .slice pa t.length px, .slice pb 0 py, .slice pc 0 pz] 93)).alloc (.cells #[.int .i64 1, .slice qa t.length qx, .slice qb 0 qy, .slice qc 0 qz] 93) = w0 at *
  obtain ⟨a0, a1, a2, a3⟩ := res4b h1
  obtain ⟨b0, b1, b2, b3⟩ := res4b h2
  have HX := hide (caTerm_same pa qa px qx t w0 hm ((unhide HP).1.below hB) ((unhide HP).2.below hB))
  go_wp2_with fail
  refine (unhide HX).mono ?_
  rintro e w1 ⟨rfl, hb⟩
  clear a0 a1 a2 a3 b0 b1 b2 b3 HX
  replace h1 := (hb.block _ (Array.getElem?_eq_some_iff.1 h1).1).trans h1
  replace h2 := (hb.block _ (Array.getElem?_eq_some_iff.1 h2).1).trans h2
  replace hB := bstep hB hb
  clear hb
  obtain ⟨a0, a1, a2, a3⟩ := res4b h1
  obtain ⟨b0, b1, b2, b3⟩ := res4b h2
  have HX := hide (caTerm_nil pb qb py qy w1)
  go_wp2_with fail
  refine (unhide HX).mono ?_
  rintro e w2 ⟨rfl, hb⟩
  clear a0 a1 a2 a3 b0 b1 b2 b3 HX
  replace h1 := (hb.block _ (Array.getElem?_eq_some_iff.1 h1).1).trans h1
  replace h2 := (hb.block _ (Array.getElem?_eq_some_iff.1 h2).1).trans h2
  replace hB := bstep hB hb
  clear hb
  obtain ⟨a0, a1, a2, a3⟩ := res4b h1
  obtain ⟨b0, b1, b2, b3⟩ := res4b h2
  have HX := hide (caTerm_nil pc qc pz qz w2)
  go_wp2_with fail
  refine (unhide HX).mono ?_
  rintro e w3 ⟨rfl, hb⟩
  clear a0 a1 a2 a3 b0 b1 b2 b3 HX
  replace h1 := (hb.block _ (Array.getElem?_eq_some_iff.1 h1).1).trans h1
  replace h2 := (hb.block _ (Array.getElem?_eq_some_iff.1 h2).1).trans h2
  replace hB := bstep hB hb
  clear hb
  obtain ⟨a0, a1, a2, a3⟩ := res4b h1
  obtain ⟨b0, b1, b2, b3⟩ := res4b h2
  clear h1 h2
  go_wp2
  go_ret
  exact ⟨rfl, hB⟩

set_option maxRecDepth 100000 in
set_option maxHeartbeats 4000000 in
theorem caGoals_one (g g' : Nat) (cg cg' : Nat) (pa pb pc qa qb qc : Option Addr) (px py pz qx qy qz : Nat) (t : List C) (w : World) (hm : t.length ≤ maxLen) (hp : Row w pa t) (hq : Row w qa t)
    (a0 : w.cell? ⟨g, 0, none⟩ = some (.int .i64 1)) (a1 : w.cell? ⟨g, 1, none⟩ = some (.slice pa t.length px)) (a2 : w.cell? ⟨g, 2, none⟩ = some (.slice pb 0 py)) (a3 : w.cell? ⟨g, 3, none⟩ = some (.slice pc 0 pz)) (a4 : w.cell? ⟨g, 4, none⟩ = some (.int .i64 0))
    (b0 : w.cell? ⟨g', 0, none⟩ = some (.int .i64 1)) (b1 : w.cell? ⟨g', 1, none⟩ = some (.slice qa t.length qx)) (b2 : w.cell? ⟨g', 2, none⟩ = some (.slice qb 0 qy)) (b3 : w.cell? ⟨g', 3, none⟩ = some (.slice qc 0 qz)) (b4 : w.cell? ⟨g', 4, none⟩ = some (.int .i64 0)) :
    Calls Try.prog 76 #[.slice (some ⟨g, 0, none⟩) 1 cg, .slice (some ⟨g', 0, none⟩) 1 cg'] w fun e w' => e = .returned (.bool true) ∧ Below w.heap.size w w' := by
  have hd : Below w.heap.size w w.drew := (Below.refl _ _).drew
  have HE := hide (caGoal_one pa pb pc qa qb qc px py pz qx qy qz t w.drew hm (hp.below hd) (hq.below hd))
  have lg : g < w.heap.size := World.block_lt_of_cell? w ⟨_, _, none⟩ a0
  have lg' : g' < w.heap.size := World.block_lt_of_cell? w ⟨_, _, none⟩ b0
  have hdd := hide hd
  replace a0 : w.drew.cell? ⟨g, 0, none⟩ = some (.int .i64 1) := a0
  replace a1 : w.drew.cell? ⟨g, 1, none⟩ = some (.slice pa t.length px) := a1
  replace a2 : w.drew.cell? ⟨g, 2, none⟩ = some (.slice pb 0 py) := a2
  replace a3 : w.drew.cell? ⟨g, 3, none⟩ = some (.slice pc 0 pz) := a3
  replace a4 : w.drew.cell? ⟨g, 4, none⟩ = some (.int .i64 0) := a4
  replace b0 : w.drew.cell? ⟨g', 0, none⟩ = some (.int .i64 1) := b0
  replace b1 : w.drew.cell? ⟨g', 1, none⟩ = some (.slice qa t.length qx) := b1
  replace b2 : w.drew.cell? ⟨g', 2, none⟩ = some (.slice qb 0 qy) := b2
  replace b3 : w.drew.cell? ⟨g', 3, none⟩ = some (.slice qc 0 qz) := b3
  replace b4 : w.drew.cell? ⟨g', 4, none⟩ = some (.int .i64 0) := b4
  clear hp hq hd
  go_enter Try.func76, Try.ntmps76
  go_wp2
  refine wp_loop_rounds 2 ?_
  rw [rounds_succ]
  go_upto_region 6 with fail
  go_region_held3 (fun w' => w'.cell? ⟨g, 0, none⟩ = some (.int .i64 1) ∧ w'.cell? ⟨g, 1, none⟩ = some (.slice pa t.length px) ∧ w'.cell? ⟨g, 2, none⟩ = some (.slice pb 0 py) ∧ w'.cell? ⟨g, 3, none⟩ = some (.slice pc 0 pz) ∧ w'.cell? ⟨g, 4, none⟩ = some (.int .i64 0) ∧ w'.cell? ⟨g', 0, none⟩ = some (.int .i64 1) ∧ w'.cell? ⟨g', 1, none⟩ = some (.slice qa t.length qx) ∧ w'.cell? ⟨g', 2, none⟩ = some (.slice qb 0 qy) ∧ w'.cell? ⟨g', 3, none⟩ = some (.slice qc 0 qz) ∧ w'.cell? ⟨g', 4, none⟩ = some (.int .i64 0)) (first | (refine ⟨?_, ?_, ?_, ?_, ?_, ?_, ?_, ?_, ?_, ?_⟩ <;> with_reducible assumption) | go_keep) (first
    | (go_at_call 127; refine (unhide HE).mono ?_; rintro e w1 ⟨rfl, hb1⟩; have c0 := (hb1.cell (p := ⟨g, 0, none⟩) lg).trans a0; have c1 := (hb1.cell (p := ⟨g, 1, none⟩) lg).trans a1; have c2 := (hb1.cell (p := ⟨g, 2, none⟩) lg).trans a2; have c3 := (hb1.cell (p := ⟨g, 3, none⟩) lg).trans a3; have c4 := (hb1.cell (p := ⟨g, 4, none⟩) lg).trans a4; have d0 := (hb1.cell (p := ⟨g', 0, none⟩) lg').trans b0; have d1 := (hb1.cell (p := ⟨g', 1, none⟩) lg').trans b1; have d2 := (hb1.cell (p := ⟨g', 2, none⟩) lg').trans b2; have d3 := (hb1.cell (p := ⟨g', 3, none⟩) lg').trans b3; have d4 := (hb1.cell (p := ⟨g', 4, none⟩) lg').trans b4))
  go_wp2
  rw [rounds_succ]
  go_wp2
  go_ret
  exact ⟨rfl, bstep (unhide hdd) hb1⟩

set_option maxRecDepth 100000 in
set_option maxHeartbeats 4000000 in
theorem caTrail_gen (s n : Int) (ga ga' ba ba' ha ha' ta ta' oa oa' : Option Addr) (gn gc gc' bc bc' hc hc' tc tc' oc oc' : Nat) (t : List C) (w : World)
    (hm : t.length ≤ maxLen) (hT : Row w ta t) (hT' : Row w ta' t)
    (HG0 : ∀ W, Below w.heap.size w W → Calls Try.prog 76 #[.slice ga gn gc, .slice ga' gn gc'] W fun e w' => e = .returned (.bool true) ∧ Below W.heap.size W w') :
    Calls Try.prog 27 #[.agg #[.int .i64 s, .slice ga gn gc, .slice ba 0 bc, .int .i64 n, .slice ha 0 hc, .slice ta t.length tc, .slice oa 0 oc], .agg #[.int .i64 s, .slice ga' gn gc', .slice ba' 0 bc', .int .i64 n, .slice ha' 0 hc', .slice ta' t.length tc', .slice oa' 0 oc']] w fun e w' => e = .returned (.bool true) ∧ Below w.heap.size w w' := by
  have hb0 := cell_below w (.cells #[.int .i64 s, .slice ga gn gc, .slice ba 0 bc, .int .i64 n, .slice ha 0 hc, .slice ta t.length tc, .slice oa 0 oc] 55)
  have h0 := World.alloc_heap_new w (.cells #[.int .i64 s, .slice ga gn gc, .slice ba 0 bc, .int .i64 n, .slice ha 0 hc, .slice ta t.length tc, .slice oa 0 oc] 55)
  have hsz : (w.alloc (.cells #[.int .i64 s, .slice ga gn gc, .slice ba 0 bc, .int .i64 n, .slice ha 0 hc, .slice ta t.length tc, .slice oa 0 oc] 55)).heap.size = w.heap.size + 1 := by simp
  have hb1 := cell_below (w.alloc (.cells #[.int .i64 s, .slice ga gn gc, .slice ba 0 bc, .int .i64 n, .slice ha 0 hc, .slice ta t.length tc, .slice oa 0 oc] 55)) (.cells #[.int .i64 s, .slice ga' gn gc', .slice ba' 0 bc', .int .i64 n, .slice ha' 0 hc', .slice ta' t.length tc', .slice oa' 0 oc'] 55)
  have h1 := (hb1.block w.heap.size (by omega)).trans h0
  have h2 := World.alloc_heap_new (w.alloc (.cells #[.int .i64 s, .slice ga gn gc, .slice ba 0 bc, .int .i64 n, .slice ha 0 hc, .slice ta t.length tc, .slice oa 0 oc] 55)) (.cells #[.int .i64 s, .slice ga' gn gc', .slice ba' 0 bc', .int .i64 n, .slice ha' 0 hc', .slice ta' t.length tc', .slice oa' 0 oc'] 55)
  rw [hsz] at h2
  have hB := bstep hb0 hb1
  have HG := hide HG0
  have HT := hide (And.intro hT hT')
  have en : (n != n) = false := by simp
  have es : (s != s) = false := by simp
  clear HG0 hT hT' h0 hb0 hb1 hsz
  go_enter Try.func27, Try.ntmps27
  go_upto_region 1 with fail
  generalize (w.alloc (.cells #[.int .i64 s, .slice ga gn gc, .slice ba 0 bc, .int .i64 n, .slice ha 0 hc, .slice ta t.length tc, .slice oa 0 oc] 55)).alloc (.cells #[.int .i64 s, .slice ga' gn gc', .slice ba' 0 bc', .int .i64 n, .slice ha' 0 hc', .slice ta' t.length tc', .slice oa' 0 oc'] 55) = w0 at *
  obtain ⟨a0, a1, a2, a3, a4, a5, a6, _⟩ := res7 h1
  obtain ⟨b0, b1, b2, b3, b4, b5, b6, _⟩ := res7 h2
  have HX := hide (unhide HG w0 hB)
  go_wp2_with fail
  refine (unhide HX).mono ?_
  rintro e w1 ⟨rfl, hb⟩
  clear a0 a1 a2 a3 a4 a5 a6 b0 b1 b2 b3 b4 b5 b6 HX
  replace h1 := (hb.block _ (Array.getElem?_eq_some_iff.1 h1).1).trans h1
  replace h2 := (hb.block _ (Array.getElem?_eq_some_iff.1 h2).1).trans h2
  replace hB := bstep hB hb
  clear hb
  obtain ⟨a0, a1, a2, a3, a4, a5, a6, _⟩ := res7 h1
  obtain ⟨b0, b1, b2, b3, b4, b5, b6, _⟩ := res7 h2
  have HX := hide (caBinds_nil ba ba' bc bc' w1)
  go_wp2_with fail
  refine (unhide HX).mono ?_
  rintro e w2 ⟨rfl, rfl⟩
  clear HX
  have HX := hide (caTerm_same ta ta' tc tc' t w2 hm ((unhide HT).1.below hB) ((unhide HT).2.below hB))
  go_wp2_with fail
  refine (unhide HX).mono ?_
  rintro e w3 ⟨rfl, hb⟩
  clear a0 a1 a2 a3 a4 a5 a6 b0 b1 b2 b3 b4 b5 b6 HX
  replace h1 := (hb.block _ (Array.getElem?_eq_some_iff.1 h1).1).trans h1
  replace h2 := (hb.block _ (Array.getElem?_eq_some_iff.1 h2).1).trans h2
  replace hB := bstep hB hb
  clear hb
  obtain ⟨a0, a1, a2, a3, a4, a5, a6, _⟩ := res7 h1
  obtain ⟨b0, b1, b2, b3, b4, b5, b6, _⟩ := res7 h2
  have HX := hide (caTerm_nil oa oa' oc oc' w3)
  go_wp2_with fail
  refine (unhide HX).mono ?_
  rintro e w4 ⟨rfl, hb⟩
  clear a0 a1 a2 a3 a4 a5 a6 b0 b1 b2 b3 b4 b5 b6 HX
  replace h1 := (hb.block _ (Array.getElem?_eq_some_iff.1 h1).1).trans h1
  replace h2 := (hb.block _ (Array.getElem?_eq_some_iff.1 h2).1).trans h2
  replace hB := bstep hB hb
  clear hb
  obtain ⟨a0, a1, a2, a3, a4, a5, a6, _⟩ := res7 h1
  obtain ⟨b0, b1, b2, b3, b4, b5, b6, _⟩ := res7 h2
  clear h1 h2
  go_wp2
  refine wp_loop_rounds 1 ?_
  rw [rounds_succ]
  go_wp2
  go_ret
  exact ⟨rfl, hB⟩

set_option maxRecDepth 100000 in
set_option maxHeartbeats 4000000 in
theorem caSolve_gen (s n : Int) (ga ga' ba ba' ha ha' ta ta' oa oa' : Option Addr) (gn gc gc' bc bc' hc hc' tc tc' oc oc' : Nat) (t : List C) (w : World)
    (hm : t.length ≤ maxLen) (hT : Row w ta t) (hT' : Row w ta' t)
    (HG0 : ∀ W, Below w.heap.size w W → Calls Try.prog 76 #[.slice ga gn gc, .slice ga' gn gc'] W fun e w' => e = .returned (.bool true) ∧ Below W.heap.size W w') :
    Calls Try.prog 29 #[.agg #[.int .i64 s, .slice ga gn gc, .slice ba 0 bc, .int .i64 n, .slice ha 0 hc, .slice ta t.length tc, .slice oa 0 oc], .agg #[.int .i64 s, .slice ga' gn gc', .slice ba' 0 bc', .int .i64 n, .slice ha' 0 hc', .slice ta' t.length tc', .slice oa' 0 oc']] w fun e w' => e = .returned (.bool true) ∧ Below w.heap.size w w' := by
  have hb0 := cell_below w (.cells #[.int .i64 s, .slice ga gn gc, .slice ba 0 bc, .int .i64 n, .slice ha 0 hc, .slice ta t.length tc, .slice oa 0 oc] 43)
  have h0 := World.alloc_heap_new w (.cells #[.int .i64 s, .slice ga gn gc, .slice ba 0 bc, .int .i64 n, .slice ha 0 hc, .slice ta t.length tc, .slice oa 0 oc] 43)
  have hsz : (w.alloc (.cells #[.int .i64 s, .slice ga gn gc, .slice ba 0 bc, .int .i64 n, .slice ha 0 hc, .slice ta t.length tc, .slice oa 0 oc] 43)).heap.size = w.heap.size + 1 := by simp
  have hb1 := cell_below (w.alloc (.cells #[.int .i64 s, .slice ga gn gc, .slice ba 0 bc, .int .i64 n, .slice ha 0 hc, .slice ta t.length tc, .slice oa 0 oc] 43)) (.cells #[.int .i64 s, .slice ga' gn gc', .slice ba' 0 bc', .int .i64 n, .slice ha' 0 hc', .slice ta' t.length tc', .slice oa' 0 oc'] 43)
  have h1 := (hb1.block w.heap.size (by omega)).trans h0
  have h2 := World.alloc_heap_new (w.alloc (.cells #[.int .i64 s, .slice ga gn gc, .slice ba 0 bc, .int .i64 n, .slice ha 0 hc, .slice ta t.length tc, .slice oa 0 oc] 43)) (.cells #[.int .i64 s, .slice ga' gn gc', .slice ba' 0 bc', .int .i64 n, .slice ha' 0 hc', .slice ta' t.length tc', .slice oa' 0 oc'] 43)
  rw [hsz] at h2
  have hB := bstep hb0 hb1
  have HG := hide HG0
  have HT := hide (And.intro hT hT')
  have en : (n != n) = false := by simp
  have es : (s != s) = false := by simp
  clear HG0 hT hT' h0 hb0 hb1 hsz
  go_enter Try.func29, Try.ntmps29
  go_upto_region 1 with fail
  generalize (w.alloc (.cells #[.int .i64 s, .slice ga gn gc, .slice ba 0 bc, .int .i64 n, .slice ha 0 hc, .slice ta t.length tc, .slice oa 0 oc] 43)).alloc (.cells #[.int .i64 s, .slice ga' gn gc', .slice ba' 0 bc', .int .i64 n, .slice ha' 0 hc', .slice ta' t.length tc', .slice oa' 0 oc'] 43) = w0 at *
  obtain ⟨a0, a1, a2, a3, a4, a5, a6, _⟩ := res7 h1
  obtain ⟨b0, b1, b2, b3, b4, b5, b6, _⟩ := res7 h2
  have HX := hide (unhide HG w0 hB)
  go_wp2_with fail
  refine (unhide HX).mono ?_
  rintro e w1 ⟨rfl, hb⟩
  clear a0 a1 a2 a3 a4 a5 a6 b0 b1 b2 b3 b4 b5 b6 HX
  replace h1 := (hb.block _ (Array.getElem?_eq_some_iff.1 h1).1).trans h1
  replace h2 := (hb.block _ (Array.getElem?_eq_some_iff.1 h2).1).trans h2
  replace hB := bstep hB hb
  clear hb
  obtain ⟨a0, a1, a2, a3, a4, a5, a6, _⟩ := res7 h1
  obtain ⟨b0, b1, b2, b3, b4, b5, b6, _⟩ := res7 h2
  have HX := hide (caBinds_nil ba ba' bc bc' w1)
  go_wp2_with fail
  refine (unhide HX).mono ?_
  rintro e w2 ⟨rfl, rfl⟩
  clear HX
  have HX := hide (caTerm_same ta ta' tc tc' t w2 hm ((unhide HT).1.below hB) ((unhide HT).2.below hB))
  go_wp2_with fail
  refine (unhide HX).mono ?_
  rintro e w3 ⟨rfl, hb⟩
  clear a0 a1 a2 a3 a4 a5 a6 b0 b1 b2 b3 b4 b5 b6 HX
  replace h1 := (hb.block _ (Array.getElem?_eq_some_iff.1 h1).1).trans h1
  replace h2 := (hb.block _ (Array.getElem?_eq_some_iff.1 h2).1).trans h2
  replace hB := bstep hB hb
  clear hb
  obtain ⟨a0, a1, a2, a3, a4, a5, a6, _⟩ := res7 h1
  obtain ⟨b0, b1, b2, b3, b4, b5, b6, _⟩ := res7 h2
  have HX := hide (caTerm_nil oa oa' oc oc' w3)
  go_wp2_with fail
  refine (unhide HX).mono ?_
  rintro e w4 ⟨rfl, hb⟩
  clear a0 a1 a2 a3 a4 a5 a6 b0 b1 b2 b3 b4 b5 b6 HX
  replace h1 := (hb.block _ (Array.getElem?_eq_some_iff.1 h1).1).trans h1
  replace h2 := (hb.block _ (Array.getElem?_eq_some_iff.1 h2).1).trans h2
  replace hB := bstep hB hb
  clear hb
  obtain ⟨a0, a1, a2, a3, a4, a5, a6, _⟩ := res7 h1
  obtain ⟨b0, b1, b2, b3, b4, b5, b6, _⟩ := res7 h2
  clear h1 h2
  go_wp2
  refine wp_loop_rounds 1 ?_
  rw [rounds_succ]
  go_wp2
  go_ret
  exact ⟨rfl, hB⟩
end Go.Proofs.Ytkedckmpjedjoaa

/- Places cloned; no bindings copied. -/
namespace Go.Proofs.Ytkedckmpjedjoaa
open Go.RowKit Go.Shelf
set_option linter.unusedVariables false
set_option linter.unusedSimpArgs false
attribute [-go_sem] Go.Builtin.append_

theorem nilCells (w : World) (a : Option Addr) (n c : Nat) : (binOp .eql 41 (.slice a n c) (.slice none 0 0)).run Try.prog w = .ok (.bool a.isNone) w := Lib.run_eql_slice_nil w _ _ a n c 0 0 Try.underlying41
theorem at_flat : ∀ {w : World} {b : Nat} (t : List C) (off : Nat), At w b off t → ∀ (j : Nat) (u : Value), (flat t)[j]? = some u → w.cell? ⟨b, off + j, none⟩ = some u
  | w, b, [], off, h, j, u, hj => by simp [flat] at hj
  | w, b, c :: t, off, h, j, u, hj => by
      have h0 := h 0 (by simp)
      have ht : At w b (off + 3) t := fun i hi => by
        have := h (i + 1) (by simp; omega)
        simp only [List.getElem_cons_succ] at this
        rw [show off + (i + 1) * 3 = off + 3 + i * 3 by omega] at this
        exact this
      rw [flat_cons] at hj
      rcases (show j = 0 ∨ j = 1 ∨ j = 2 ∨ 3 ≤ j by omega) with rfl | rfl | rfl | h3
      · simp at hj; subst hj; exact h0.1
      · simp at hj; subst hj; exact h0.2.1
      · simp at hj; subst hj; exact h0.2.2
      · obtain ⟨k, rfl⟩ : ∃ k, j = k + 3 := ⟨j - 3, by omega⟩
        simp at hj
        have := at_flat t (off + 3) ht k u hj
        rw [show off + (k + 3) = off + 3 + k by omega]
        exact this

set_option maxRecDepth 100000 in
set_option maxHeartbeats 1000000 in
theorem clone_any (ao : Option Addr) (c : Nat) (t : List C) (w : World) (hm : t.length ≤ 1048576) (hR : Row w ao t) :
    Calls Try.prog 81 #[.slice ao t.length c] w fun e w' => ∃ a2 c2, e = .returned (.slice a2 t.length c2) ∧ OwnC w' w.heap.size (.slice a2 t.length c2) t ∧ Below w.heap.size w w' := by
  have hq := nilCells
  obtain ⟨i0, hi, hz0, hz1, hz2⟩ := info_parts Try.infoCell
  cases ao with
  | none =>
    have ht : t = [] := by
      rcases hR with h | ⟨b, off, e, _⟩
      · exact h
      · cases e
    subst ht
    go_enter Try.func81, Try.ntmps81
    go_wp2
    go_ret
    exact ⟨none, 0, rfl, World.ownsRow_nil _ _ _ _, Below.refl _ _⟩
  | some a =>
    have hnews : ∀ (j : Nat) (u : Value), (flat t)[j]? = some u → (w.alloc (.cells #[] 98)).cell? (a.add j) = some u := fun j u hj => by
      rcases hR with h | ⟨b, off, e, h⟩
      · subst h; simp [flat] at hj
      · obtain rfl := Option.some.inj e
        rw [Addr.add_mid]
        exact at_flat t off (h.below (cell_below w _)) j u hj
    clear hR
    go_enter Try.func81, Try.ntmps81
    go_wp2_with (at_builtin; refine wpList_append_own _ rfl _ _ 41 rfl w.heap.size 98 i0 _ 3 32 Try.underlying41 hi hz0 hz1 hz2 rfl (by decide) _ _ _ rfl (World.ownsRow_made w #[] 0 (Nat.le_refl _) (by simp [maxLen]) rfl) a t.length c (flat t) rfl (flat_length t) hnews (flat_one t) ?s3 ?s4 ?s5 ?_)
    case s3 => unfold maxLen; omega
    case s4 => omega
    case s5 => simp
    intro v1 w1 ho1 hG1 _
    have hO1 : OwnC w1 w.heap.size v1 t := by simpa [OwnC] using ho1
    have hB1 : Below w.heap.size w w1 := ((Below.refl _ w).alloc (Nat.le_refl _) _).grown hG1 (by simp) (fun k e => by simp [Value.ownBlock] at e; omega)
    obtain ⟨a2, c2, rfl, _⟩ := hO1.shape
    clear ho1 hG1
    go_wp2
    go_ret
    exact ⟨a2, c2, rfl, hO1, hB1⟩
theorem copyBinds_nil (a : Option Addr) (c : Nat) (w : World) : Calls Try.prog 80 #[.slice a 0 c] w fun e w' => e = .returned (.slice none 0 0) ∧ w' = w := by
  go_enter Try.func80, Try.ntmps80
  go_wp2
  refine wp_loop_rounds 1 ?_
  rw [rounds_succ]
  go_wp2
  go_ret
  exact ⟨rfl, rfl⟩
theorem copyGoals_nil (a : Option Addr) (c : Nat) (w : World) : Calls Try.prog 79 #[.slice a 0 c] w fun e w' => e = .returned (.slice none 0 0) ∧ w' = w := by
  go_enter Try.func79, Try.ntmps79
  go_wp2
  refine wp_loop_rounds 1 ?_
  rw [rounds_succ]
  go_wp2
  go_ret
  exact ⟨rfl, rfl⟩
end Go.Proofs.Ytkedckmpjedjoaa

/- One goal copied. -/
namespace Go.Proofs.Ytkedckmpjedjoaa
open Go.RowKit Go.Shelf
set_option linter.unusedVariables false
set_option linter.unusedSimpArgs false
attribute [-go_sem] Go.Instr.storeAt
attribute [-go_sem] Go.Builtin.append_

theorem res4f {W : World} {R : Nat} {T : TypeId} {x0 x1 x2 x3 : Value} (h : W.heap[R]? = some (.cells #[x0, x1, x2, x3] T)) :
    W.cell? ⟨R, 0, none⟩ = some x0 ∧ W.cell? ⟨R, 1, none⟩ = some x1 ∧ W.cell? ⟨R, 2, none⟩ = some x2 ∧ W.cell? ⟨R, 3, none⟩ = some x3 ∧ W.frozen? ⟨R, 0, none⟩ = false ∧ W.frozen? ⟨R, 1, none⟩ = false ∧ W.frozen? ⟨R, 2, none⟩ = false ∧ W.frozen? ⟨R, 3, none⟩ = false := by
  simp [World.cell?, World.frozen?, h]
theorem goalSize : (Try.prog.info? 93).map (·.size) = some 4 := by kernel_rfl
theorem stored4 {W : World} {R : Nat} {y0 y1 y2 y3 : Value} (h : W.heap[R]? = some (.cells #[y0, y1, y2, y3] 93)) (x0 x1 x2 x3 : Value) (h1 : (#[x0, x1, x2, x3] : Array Value).all (·.oneCell') = true) :
    ∃ V, (Instr.storeAt 93 (.pointer (some ⟨R, 0, none⟩)) (.agg #[x0, x1, x2, x3])).run Try.prog W = .ok () V ∧ V.heap[R]? = some (.cells #[x0, x1, x2, x3] 93) ∧
      (∀ j, j ≠ R → V.heap[j]? = W.heap[j]?) ∧ V.heap.size = W.heap.size ∧ ∀ (b : Nat) (w : World), Below b w W → b ≤ R → Below b w V := by
  obtain ⟨c0, c1, c2, c3, f0, f1, f2, f3⟩ := res4f h
  refine ⟨W.setCells R 0 [x0, x1, x2, x3], run_storeAt_mid W R 0 93 #[x0, x1, x2, x3] (fun j hj => ?_) goalSize h1, ?_, fun j hj => (set_othr _ _ hj).trans ((set_othr _ _ hj).trans ((set_othr _ _ hj).trans (set_othr _ _ hj))), by simp [World.setCells], fun b w hb hR => (((hb.setCell (p := ⟨R, 0, none⟩) hR x0).setCell (p := ⟨R, 1, none⟩) hR x1).setCell (p := ⟨R, 2, none⟩) hR x2).setCell (p := ⟨R, 3, none⟩) hR x3⟩
  · have hj : j < 4 := hj
    rw [Nat.zero_add]
    rcases (show j = 0 ∨ j = 1 ∨ j = 2 ∨ j = 3 by omega) with rfl | rfl | rfl | rfl
    · exact ⟨by rw [c0]; rfl, f0⟩
    · exact ⟨by rw [c1]; rfl, f1⟩
    · exact ⟨by rw [c2]; rfl, f2⟩
    · exact ⟨by rw [c3]; rfl, f3⟩
  · have s0 : (W.setCell ⟨R, 0, none⟩ x0).heap[R]? = some (.cells #[x0, y1, y2, y3] 93) := set_blk7 h x0
    have s1 : ((W.setCell ⟨R, 0, none⟩ x0).setCell ⟨R, 1, none⟩ x1).heap[R]? = some (.cells #[x0, x1, y2, y3] 93) := set_blk7 s0 x1
    have s2 : (((W.setCell ⟨R, 0, none⟩ x0).setCell ⟨R, 1, none⟩ x1).setCell ⟨R, 2, none⟩ x2).heap[R]? = some (.cells #[x0, x1, x2, y3] 93) := set_blk7 s1 x2
    have s3 : ((((W.setCell ⟨R, 0, none⟩ x0).setCell ⟨R, 1, none⟩ x1).setCell ⟨R, 2, none⟩ x2).setCell ⟨R, 3, none⟩ x3).heap[R]? = some (.cells #[x0, x1, x2, x3] 93) := set_blk7 s2 x3
    exact s3
theorem newed4 (W : World) (y x : Array Value) (hy : y.size = 4) (hx : x.size = 4) (h1 : x.all (·.oneCell') = true) :
    (Instr.storeAt 93 (.pointer (some ⟨W.heap.size, 0, none⟩)) (.agg x)).run Try.prog (W.alloc (.cells y 93)) = .ok () (W.alloc (.cells x 93)) :=
  run_storeAt_new W 93 y x (by rw [hx]; exact goalSize) (by rw [hy, hx]) h1
theorem seg_of {w F : World} {l1 h1 l2 h2 l3 h3 : Nat} {t : List C} {v1 v2 v3 : Value} (S1 : SegC l1 h1 F v1 t) (S2 : SegC l2 h2 F v2 []) (S3 : SegC l3 h3 F v3 []) (q1 : w.heap.size ≤ l1 ∧ l1 ≤ h1) (q2 : h1 ≤ l2 ∧ l2 ≤ h2) (q3 : h2 ≤ l3 ∧ l3 ≤ h3) (q4 : h3 ≤ F.heap.size) :
    SegG w.heap.size F.heap.size F ⟨1, t, [], []⟩ (.int .i64 1) v1 v2 v3 :=
  ⟨rfl, h1, h2, by omega, by omega, by omega, S1.wide q1.1 (Nat.le_refl _), S2.wide q2.1 (Nat.le_refl _), S3.wide q3.1 q4⟩

set_option maxRecDepth 100000 in
set_option maxHeartbeats 8000000 in
theorem copyGoals_one (g cg px py pz : Nat) (pa pb pc : Option Addr) (t : List C) (w : World) (hm : t.length ≤ 1048576) (hp : Row w pa t)
    (a0 : w.cell? ⟨g, 0, none⟩ = some (.int .i64 1)) (a1 : w.cell? ⟨g, 1, none⟩ = some (.slice pa t.length px)) (a2 : w.cell? ⟨g, 2, none⟩ = some (.slice pb 0 py)) (a3 : w.cell? ⟨g, 3, none⟩ = some (.slice pc 0 pz)) (a4 : w.cell? ⟨g, 4, none⟩ = some (.int .i64 0)) :
    Calls Try.prog 79 #[.slice (some ⟨g, 0, none⟩) 1 cg] w (OneG w t) := by
  have hb0 := cell_below w (.cells #[.int .i64 1, .slice pa t.length px, .slice pb 0 py, .slice pc 0 pz, .int .i64 0] 95)
  have h0 := World.alloc_heap_new w (.cells #[.int .i64 1, .slice pa t.length px, .slice pb 0 py, .slice pc 0 pz, .int .i64 0] 95)
  have hst0 : ∀ y, y.size = 5 → (Instr.storeAt 95 (.pointer (some ⟨w.heap.size, 0, none⟩)) (.agg #[.int .i64 1, .slice pa t.length px, .slice pb 0 py, .slice pc 0 pz, .int .i64 0])).run Try.prog (w.alloc (.cells y 95)) = .ok () (w.alloc (.cells #[.int .i64 1, .slice pa t.length px, .slice pb 0 py, .slice pc 0 pz, .int .i64 0] 95)) := fun y hy => run_storeAt_new w 95 y #[.int .i64 1, .slice pa t.length px, .slice pb 0 py, .slice pc 0 pz, .int .i64 0] (by kernel_rfl) (by rw [hy]; rfl) (by simp [Value.oneCell'])
  have hst1 := hst0 #[.int .i64 0, .slice none 0 0, .slice none 0 0, .slice none 0 0, .int .i64 0] rfl
  have HP := hide hp
  clear hp hst0
  go_enter Try.func79, Try.ntmps79
  go_wp2
  refine wp_loop_rounds 2 ?_
  rw [rounds_succ]
  go_upto_region 5 with fail
  clear hst1
  generalize w.alloc (.cells #[.int .i64 1, .slice pa t.length px, .slice pb 0 py, .slice pc 0 pz, .int .i64 0] 95) = W at *
  have hlW : w.heap.size < W.heap.size := (Array.getElem?_eq_some_iff.1 h0).1
  have H1 := hide (fun (V : World) (hV : Below W.heap.size W V) => clone_any pa px t V hm ((unhide HP).below (bstep hb0 hV)))
  have H2 := hide (fun (V : World) => clone_any pb py [] V (Nat.zero_le _) (.inl rfl))
  have H3 := hide (fun (V : World) => clone_any pc pz [] V (Nat.zero_le _) (.inl rfl))
  simp only [List.length_nil] at H2 H3
  have hd : Below W.heap.size W W.drew := (Below.refl _ _).drew
  have hdA : Below W.heap.size W (W.alloc (.cells #[.int .i64 0, .slice none 0 0, .slice none 0 0, .slice none 0 0] 93)).drew := (cell_below W (.cells #[.int .i64 0, .slice none 0 0, .slice none 0 0, .slice none 0 0] 93)).drew
  have hltA : W.heap.size < (W.alloc (.cells #[.int .i64 0, .slice none 0 0, .slice none 0 0, .slice none 0 0] 93)).drew.heap.size := by show _ < (W.alloc (.cells #[.int .i64 0, .slice none 0 0, .slice none 0 0, .slice none 0 0] 93)).heap.size; simp
  have s0 : W.drew.cell? ⟨w.heap.size, 0, none⟩ = some (.int .i64 1) := (res5 h0).1
  have s1 : W.drew.cell? ⟨w.heap.size, 1, none⟩ = some (.slice pa t.length px) := (res5 h0).2.1
  have s2 : W.drew.cell? ⟨w.heap.size, 2, none⟩ = some (.slice pb 0 py) := (res5 h0).2.2.1
  have s3 : W.drew.cell? ⟨w.heap.size, 3, none⟩ = some (.slice pc 0 pz) := (res5 h0).2.2.2.1
  have HS := hide (fun (V : World) (hV : Below W.heap.size W V) => (show V.cell? ⟨w.heap.size, 0, none⟩ = some (.int .i64 1) ∧ V.cell? ⟨w.heap.size, 1, none⟩ = some (.slice pa t.length px) ∧ V.cell? ⟨w.heap.size, 2, none⟩ = some (.slice pb 0 py) ∧ V.cell? ⟨w.heap.size, 3, none⟩ = some (.slice pc 0 pz) from by
    have h := res5 ((hV.block w.heap.size hlW).trans h0)
    exact ⟨h.1, h.2.1, h.2.2.1, h.2.2.2.1⟩))
  have HK4 := hide (fun (V : World) (hV : Below W.heap.size W V) => (show V.cell? ⟨w.heap.size, 4, none⟩ = some (.int .i64 0) from (res5 ((hV.block w.heap.size hlW).trans h0)).2.2.2.2))
  have HBW := hide hb0
  clear a0 a1 a2 a3 a4 h0 hb0
  go_region_held3 (fun w' => w'.cell? ⟨w.heap.size, 0, none⟩ = some (.int .i64 1) ∧ w'.cell? ⟨w.heap.size, 1, none⟩ = some (.slice pa t.length px) ∧ w'.cell? ⟨w.heap.size, 2, none⟩ = some (.slice pb 0 py) ∧ w'.cell? ⟨w.heap.size, 3, none⟩ = some (.slice pc 0 pz)) (first | (refine ⟨?_, ?_, ?_, ?_⟩ <;> with_reducible assumption) | (refine unhide HS _ ?_; with_reducible assumption) | (refine unhide HS _ hdA) | (refine unhide HS _ (bstep ?_ (cell_below _ _)); with_reducible assumption)) (first
    | (go_at_call 81; have hx := hB2; refine (unhide H3 _).mono ?_; rintro e w3 ⟨d3, c3, rfl, ho3, hb3⟩; have hB3 : Below W.heap.size W w3 := (by first | exact bstep hB2 hb3 | exact bstep hB2A hb3); have hB3A := bstep hB3 (cell_below w3 (.cells #[.int .i64 0, .slice none 0 0, .slice none 0 0, .slice none 0 0] 93)); have hc3 : Below w2.heap.size w2 w3 := (by first | exact hb3 | exact bstep (cell_below w2 _) hb3); (try (replace zb := (hb3.block _ (Array.getElem?_eq_some_iff.1 zb).1).trans zb)); (try (have zb : w3.heap[w2.heap.size]? = some (.cells #[.int .i64 0, .slice none 0 0, .slice none 0 0, .slice none 0 0] 93 (0, 0)) := Eq.trans (hb3.block w2.heap.size hlt2) (World.alloc_heap_new w2 _))); have S3 := segC_of (w := w) ho3; clear ho3; have hz1 := hB1.size; have hz2 := hc2.size; have hz3 := hc3.size; have hy1 := hb1.size; have hy2 := hb2.size; have hy3 := hb3.size; (try (obtain ⟨F, hst, hA, hoth, hsz, hbel⟩ := stored4 zb (.int .i64 1) (.slice d1 t.length c1) (.slice d2 0 c2) (.slice d3 0 c3) (by simp [Value.oneCell']); have hB6 := hbel W.heap.size W hB3 (by first | exact Nat.le_refl _ | exact hB1.size | exact hB2.size); have HG := hide (And.intro hA (And.intro hB6 (seg_of (F := F) (w := w) (S1.kept (fun j h1 h2 => (hoth j (by simp at h1 hy1 hy2 hy3; omega)).trans ((hc3.block j (by omega)).trans (hc2.block j h2)))) (S2.kept (fun j h1 h2 => (hoth j (by simp at h1 hy1 hy2 hy3; omega)).trans (hc3.block j h2))) (S3.kept (fun j h1 h2 => hoth j (by simp at h1 hy1 hy2 hy3; omega))) (by simp; omega) (by simp; omega) (by simp; omega) (by omega)))); clear hA hoth hsz hbel S1 S2 S3)); have hstN := newed4 w3 #[.int .i64 0, .slice none 0 0, .slice none 0 0, .slice none 0 0] #[.int .i64 1, .slice d1 t.length c1, .slice d2 0 c2, .slice d3 0 c3] rfl rfl (by simp [Value.oneCell']))
    | (go_at_call 81; have hx := hB1; refine (unhide H2 _).mono ?_; rintro e w2 ⟨d2, c2, rfl, ho2, hb2⟩; have hB2 : Below W.heap.size W w2 := (by first | exact bstep hB1 hb2 | exact bstep hB1A hb2); have hB2A := bstep hB2 (cell_below w2 (.cells #[.int .i64 0, .slice none 0 0, .slice none 0 0, .slice none 0 0] 93)); have hc2 : Below w1.heap.size w1 w2 := (by first | exact hb2 | exact bstep (cell_below w1 _) hb2); (try (replace zb := (hb2.block _ (Array.getElem?_eq_some_iff.1 zb).1).trans zb)); (try (have zb : w2.heap[w1.heap.size]? = some (.cells #[.int .i64 0, .slice none 0 0, .slice none 0 0, .slice none 0 0] 93 (0, 0)) := Eq.trans (hb2.block w1.heap.size hlt1) (World.alloc_heap_new w1 _))); have hlt2 : w2.heap.size < (w2.alloc (.cells #[.int .i64 0, .slice none 0 0, .slice none 0 0, .slice none 0 0] 93)).heap.size := (by simp); have S2 := segC_of (w := w) ho2; clear ho2)
    | (go_at_call 81; refine (unhide H1 _ (by first | exact hd | exact hdA)).mono ?_; rintro e w1 ⟨d1, c1, rfl, ho1, hb1⟩; have hB1 : Below W.heap.size W w1 := (by first | exact bstep hd hb1 | exact bstep hdA hb1); have hB1A := bstep hB1 (cell_below w1 (.cells #[.int .i64 0, .slice none 0 0, .slice none 0 0, .slice none 0 0] 93)); (try (have zb : w1.heap[W.heap.size]? = some (.cells #[.int .i64 0, .slice none 0 0, .slice none 0 0, .slice none 0 0] 93 (0, 0)) := Eq.trans (hb1.block W.heap.size hltA) (World.alloc_heap_new W _))); have hlt1 : w1.heap.size < (w1.alloc (.cells #[.int .i64 0, .slice none 0 0, .slice none 0 0, .slice none 0 0] 93)).heap.size := (by simp); have S1 := segC_of (w := w) ho1; clear ho1))
  · have hA := World.alloc_heap_new w3 (.cells #[.int .i64 1, .slice d1 t.length c1, .slice d2 0 c2, .slice d3 0 c3] 93)
    have hbA := cell_below w3 (.cells #[.int .i64 1, .slice d1 t.length c1, .slice d2 0 c2, .slice d3 0 c3] 93)
    have hB6 := bstep hB3 hbA
    have hzA : (w3.alloc (.cells #[.int .i64 1, .slice d1 t.length c1, .slice d2 0 c2, .slice d3 0 c3] 93)).heap.size = w3.heap.size + 1 := by simp
    have HG := hide (And.intro hA (And.intro hB6 (seg_of (F := w3.alloc (.cells #[.int .i64 1, .slice d1 t.length c1, .slice d2 0 c2, .slice d3 0 c3] 93)) (w := w) (S1.kept (fun j h1 h2 => (hbA.block j (by omega)).trans ((hc3.block j (by omega)).trans (hc2.block j h2)))) (S2.kept (fun j h1 h2 => (hbA.block j (by omega)).trans (hc3.block j h2))) (S3.kept (fun j h1 h2 => hbA.block j h2)) (by simp; omega) (by simp; omega) (by simp; omega) (by omega))))
    clear hA hbA S1 S2 S3 hstN hzA
    generalize w3.alloc (.cells #[.int .i64 1, .slice d1 t.length c1, .slice d2 0 c2, .slice d3 0 c3] 93) = F at *
    generalize w3.heap.size = A at *
    obtain ⟨hA, _, hSG⟩ := unhide HG
    have hF := bstep (unhide HBW) hB6
    have hk4 := unhide HK4 F hB6
    obtain ⟨g0, g1, g2, g3, _⟩ := res4f hA
    obtain ⟨gg, cap3, w7, hr, hseg, hbw⟩ := one_push hSG hF ⟨rfl, rfl, rfl, rfl⟩
    have FIN := hide (And.intro hseg hbw)
    clear hseg hbw hSG hF hA HG HBW HK4 HS hB6 hB1 hB2 hB3 hB1A hB2A hB3A hb1 hb2 hb3 hc2 hc3 s0 s1 s2 s3 hd hdA hltA hlt1 hlt2
    go_wp2
    rw [rounds_succ]
    go_wp2
    go_ret
    exact ⟨gg, cap3, rfl, (unhide FIN).1, (unhide FIN).2⟩
  all_goals
    clear hst hstN
    obtain ⟨hA, _, hSG⟩ := unhide HG
    have hF := bstep (unhide HBW) hB6
    have hk4 := unhide HK4 F hB6
    obtain ⟨g0, g1, g2, g3, _⟩ := res4f hA
    obtain ⟨gg, cap3, w7, hr, hseg, hbw⟩ := one_push hSG hF ⟨rfl, rfl, rfl, rfl⟩
    have FIN := hide (And.intro hseg hbw)
    clear hseg hbw hSG hF hA HG HBW HK4 HS hB6 hB1 hB2 hB3 hB1A hB2A hB3A hb1 hb2 hb3 hc2 hc3 s0 s1 s2 s3 hd hdA hltA hlt1 hlt2
    go_wp2
    rw [rounds_succ]
    go_wp2
    go_ret
    exact ⟨gg, cap3, rfl, (unhide FIN).1, (unhide FIN).2⟩
end Go.Proofs.Ytkedckmpjedjoaa

/- TrlView of a state at its beginning. -/
namespace Go.Proofs.Ytkedckmpjedjoaa
open Go.RowKit Go.Shelf
set_option linter.unusedVariables false
set_option linter.unusedSimpArgs false
attribute [-go_sem] Go.Instr.storeAt
attribute [-go_sem] Go.Builtin.append_

theorem clone_none (c : Nat) (w : World) : Calls Try.prog 81 #[.slice none 0 c] w fun e w' => e = .returned (.slice none 0 0) ∧ w' = w := by
  have hq := nilCells
  go_enter Try.func81, Try.ntmps81
  go_wp2
  go_ret
  exact ⟨rfl, rfl⟩
theorem clone_nil (ao : Option Addr) (c : Nat) (t : List C) (w : World) (hm : t.length ≤ 1048576) (hR : Row w ao t) :
    Calls Try.prog 81 #[.slice ao t.length c] w fun e w' => ∃ a2 c2, e = .returned (.slice a2 t.length c2) ∧ OwnC w' w.heap.size (.slice a2 t.length c2) t ∧ Below w.heap.size w w' ∧ (ao = none → a2 = none ∧ c2 = 0) := by
  cases ao with
  | none =>
    have ht : t = [] := by
      rcases hR with h | ⟨b, off, e, _⟩
      · exact h
      · cases e
    subst ht
    refine (clone_none c w).mono ?_
    rintro e w' ⟨rfl, rfl⟩
    exact ⟨none, 0, rfl, World.ownsRow_nil _ _ _ _, Below.refl _ _, fun _ => ⟨rfl, rfl⟩⟩
  | some a =>
    refine (clone_any (some a) c t w hm hR).mono ?_
    rintro e w' ⟨a2, c2, rfl, ho, hb⟩
    exact ⟨a2, c2, rfl, ho, hb, fun h => by cases h⟩
/-- The question, where there is one. -/
def TT (t : List C) : List C := if topB t then t else []
theorem TT_len (t : List C) (hl : t.length ≤ 1048576) : (TT t).length ≤ 1048576 := by unfold TT; split <;> simp_all
/-- The one goal, or none, in memory of its own. -/
def GPos (t : List C) (lo hi : Nat) (W : World) (a : Option Addr) (c : Nat) : Prop := (topB t = false ∧ a = none ∧ c = 0) ∨ (topB t = true ∧ ∃ g, a = some ⟨g, 0, none⟩ ∧ SegL lo hi W 95 5 (.slice (some ⟨g, 0, none⟩) 1 c) 1 (ESg t))
theorem GPos.kept {t : List C} {lo hi : Nat} {W W' : World} {a : Option Addr} {c : Nat} (h : GPos t lo hi W a c) (hk : Agree lo hi W W') : GPos t lo hi W' a c := by
  rcases h with h | ⟨h0, g, e, hS⟩
  · exact .inl h
  · exact .inr ⟨h0, g, e, hS.kept (esg_keeps t) hk⟩
theorem copyG7 (t : List C) (f : F7) (V : World) (hl : t.length ≤ 1048576) (h : Rd7 t f V) :
    Calls Try.prog 79 #[.slice f.ga f.gn f.gc] V fun e w' => ∃ a c, e = .returned (.slice a f.gn c) ∧ GPos t V.heap.size w'.heap.size w' a c ∧ Below V.heap.size V w' := by
  rcases h with ⟨h0, rfl⟩ | ⟨h0, h1, h2, h3, h4, h5, g, pa, pb, pc, px, py, pz, e, hr, c0, c1, c2, c3, c4⟩
  · refine (copyGoals_nil none 0 V).mono ?_
    rintro e w' ⟨rfl, rfl⟩
    exact ⟨none, 0, rfl, .inl ⟨h0, rfl, rfl⟩, Below.refl _ _⟩
  · rw [e, h3]
    refine (copyGoals_one g f.gc px py pz pa pb pc t V hl hr c0 c1 c2 c3 c4).mono ?_
    rintro e w' ⟨g2, cap, rfl, hS, hb⟩
    exact ⟨some ⟨g2, 0, none⟩, cap, rfl, .inr ⟨h0, g2, rfl, hS⟩, hb⟩
theorem rd_top {t : List C} {f : F7} {V : World} (h : Rd7 t f V) : Row V f.ta (TT t) ∧ f.tn = (TT t).length := by
  rcases h with ⟨h0, rfl⟩ | ⟨h0, h1, h2, h3, h4, h5, _⟩
  · unfold TT; rw [h0]; exact ⟨.inl rfl, rfl⟩
  · unfold TT; rw [h0]; exact ⟨h5, h4⟩
theorem own_of {F : World} {l1 h1 l2 h2 : Nat} {t : List C} (f : F7) {d1 d3 d4 : Option Addr} {b1 b3 b4 : Nat} (G : GPos t l1 h1 F d1 b1) (S : SegC l2 h2 F (.slice d3 (TT t).length b3) (TT t)) (hfn : f.tn = (TT t).length) (q1 : l1 ≤ h1) (q2 : h1 ≤ l2) (q3 : l2 ≤ h2) (q4 : h2 ≤ F.heap.size)
    (hft : (topB t = false ∧ f = zero7) ∨ (topB t = true ∧ f.s = 1 ∧ f.n = ((freeOf t).length : Int) ∧ f.gn = 1)) (n3 : f.ta = none → d3 = none ∧ b3 = 0) (n4 : f.oa = none → d4 = none ∧ b4 = 0) :
    Rd7 t ⟨f.s, f.n, d1, none, none, d3, d4, f.gn, b1, 0, 0, f.tn, b3, b4⟩ F := by
  rcases G with ⟨g0, rfl, rfl⟩ | ⟨g0, g, rfl, hS⟩
  · rcases hft with ⟨_, rfl⟩ | ⟨f0, _⟩
    · obtain ⟨rfl, rfl⟩ := n3 rfl
      obtain ⟨rfl, rfl⟩ := n4 rfl
      exact .inl ⟨g0, rfl⟩
    · rw [g0] at f0; cases f0
  · rcases hft with ⟨f0, _⟩ | ⟨_, f1, f2, f3⟩
    · rw [g0] at f0; cases f0
    · have ht : TT t = t := by unfold TT; rw [g0]; rfl
      rw [ht] at S hfn
      have ho : Own7 l1 h2 t ⟨f.s, f.n, some ⟨g, 0, none⟩, none, none, d3, d4, f.gn, b1, 0, 0, f.tn, b3, b4⟩ F := .inr ⟨g0, f1, f2, f3, hfn, g, h1, rfl, q1, by omega, hS, S.wide q2 (Nat.le_refl _)⟩
      exact ho.rd q4
theorem Rd7.other2 {t : List C} {f : F7} {V V' : World} {R : Nat} (h : Rd7 t f V) (hR : V.heap[R]? = some (.cells #[.int .i64 0, .slice none 0 0, .slice none 0 0, .int .i64 0, .slice none 0 0, .slice none 0 0, .slice none 0 0] 43)) (hoth : ∀ j, j ≠ R → V'.heap[j]? = V.heap[j]?) : Rd7 t f V' := h.other hR hoth

set_option maxRecDepth 100000 in
set_option maxHeartbeats 8000000 in
theorem trlView7 (t : List C) (f : F7) (w : World) (hl : t.length ≤ 1048576) (h : Rd7 t f w) :
    Calls Try.prog 30 #[.agg #[.int .i64 f.s, .slice f.ga f.gn f.gc, .slice f.ba 0 f.bc, .int .i64 f.n, .slice f.ha 0 f.hc, .slice f.ta f.tn f.tc, .slice f.oa 0 f.oc]] w fun e w' => ∃ f' : F7, e = .returned (.agg #[.int .i64 f'.s, .slice f'.ga f'.gn f'.gc, .slice f'.ba 0 f'.bc, .int .i64 f'.n, .slice f'.ha 0 f'.hc, .slice f'.ta f'.tn f'.tc, .slice f'.oa 0 f'.oc]) ∧ Rd7 t f' w' ∧ Below w.heap.size w w' := by
  have hft : (topB t = false ∧ f = zero7) ∨ (topB t = true ∧ f.s = 1 ∧ f.n = ((freeOf t).length : Int) ∧ f.gn = 1) := by
    rcases h with h | ⟨h0, h1, h2, h3, _⟩
    · exact .inl h
    · exact .inr ⟨h0, h1, h2, h3⟩
  have hfn := (rd_top h).2
  have hb0 := cell_below w (.cells #[.int .i64 f.s, .slice f.ga f.gn f.gc, .slice f.ba 0 f.bc, .int .i64 f.n, .slice f.ha 0 f.hc, .slice f.ta f.tn f.tc, .slice f.oa 0 f.oc] 55)
  have h0 := World.alloc_heap_new w (.cells #[.int .i64 f.s, .slice f.ga f.gn f.gc, .slice f.ba 0 f.bc, .int .i64 f.n, .slice f.ha 0 f.hc, .slice f.ta f.tn f.tc, .slice f.oa 0 f.oc] 55)
  have hsz : (w.alloc (.cells #[.int .i64 f.s, .slice f.ga f.gn f.gc, .slice f.ba 0 f.bc, .int .i64 f.n, .slice f.ha 0 f.hc, .slice f.ta f.tn f.tc, .slice f.oa 0 f.oc] 55)).heap.size = w.heap.size + 1 := by simp
  have hb1 := cell_below (w.alloc (.cells #[.int .i64 f.s, .slice f.ga f.gn f.gc, .slice f.ba 0 f.bc, .int .i64 f.n, .slice f.ha 0 f.hc, .slice f.ta f.tn f.tc, .slice f.oa 0 f.oc] 55)) (.cells #[.int .i64 0, .slice none 0 0, .slice none 0 0, .int .i64 0, .slice none 0 0, .slice none 0 0, .slice none 0 0] 43)
  have h1 := (hb1.block w.heap.size (by omega)).trans h0
  have h2 := World.alloc_heap_new (w.alloc (.cells #[.int .i64 f.s, .slice f.ga f.gn f.gc, .slice f.ba 0 f.bc, .int .i64 f.n, .slice f.ha 0 f.hc, .slice f.ta f.tn f.tc, .slice f.oa 0 f.oc] 55)) (.cells #[.int .i64 0, .slice none 0 0, .slice none 0 0, .int .i64 0, .slice none 0 0, .slice none 0 0, .slice none 0 0] 43)
  rw [hsz] at h2
  have hbW := bstep hb0 hb1
  have hR := h.below hbW
  have HFT := hide hft
  have HFN := hide hfn
  clear h0 hb0 hb1 hsz h hft hfn
  go_enter Try.func30, Try.ntmps30
  go_upto_region 1 with fail
  generalize (w.alloc (.cells #[.int .i64 f.s, .slice f.ga f.gn f.gc, .slice f.ba 0 f.bc, .int .i64 f.n, .slice f.ha 0 f.hc, .slice f.ta f.tn f.tc, .slice f.oa 0 f.oc] 55)).alloc (.cells #[.int .i64 0, .slice none 0 0, .slice none 0 0, .int .i64 0, .slice none 0 0, .slice none 0 0, .slice none 0 0] 43) = W at *
  have hlW : w.heap.size < W.heap.size := (Array.getElem?_eq_some_iff.1 h1).1
  have hlR : w.heap.size + 1 < W.heap.size := (Array.getElem?_eq_some_iff.1 h2).1
  have H1 := hide (fun (V : World) (hV : Below W.heap.size W V) => copyG7 t f V hl (hR.below hV))
  have H2 := hide (fun (V : World) => (show Calls Try.prog 80 #[.slice f.ba 0 f.bc] V fun e w' => e = .returned (.slice none 0 0) ∧ Below V.heap.size V w' from (copyBinds_nil f.ba f.bc V).mono (by rintro e w' ⟨rfl, rfl⟩; exact ⟨rfl, Below.refl _ _⟩)))
  have H3 : Hid (∀ (V : World), Below W.heap.size W V → Calls Try.prog 81 #[.slice f.ta f.tn f.tc] V fun e w' => ∃ a2 c2, e = .returned (.slice a2 f.tn c2) ∧ OwnC w' V.heap.size (.slice a2 (TT t).length c2) (TT t) ∧ Below V.heap.size V w' ∧ (f.ta = none → a2 = none ∧ c2 = 0)) := fun V hV => by
    have q := unhide HFN
    rw [q]
    exact clone_nil f.ta f.tc (TT t) V (TT_len t hl) ((rd_top hR).1.below hV)
  have H4 := hide (fun (V : World) => (show Calls Try.prog 81 #[.slice f.oa 0 f.oc] V fun e w' => ∃ a2 c2, e = .returned (.slice a2 0 c2) ∧ Below V.heap.size V w' ∧ (f.oa = none → a2 = none ∧ c2 = 0) from (clone_nil f.oa f.oc [] V (Nat.zero_le _) (.inl rfl)).mono (by rintro e w' ⟨a2, c2, rfl, _, hb, hn⟩; exact ⟨a2, c2, rfl, hb, hn⟩)))
  have hd : Below W.heap.size W W.drew := (Below.refl _ _).drew
  have hdA : Below W.heap.size W (W.alloc (.cells #[.int .i64 0, .slice none 0 0, .slice none 0 0, .int .i64 0, .slice none 0 0, .slice none 0 0, .slice none 0 0] 43)).drew := (cell_below W (.cells #[.int .i64 0, .slice none 0 0, .slice none 0 0, .int .i64 0, .slice none 0 0, .slice none 0 0, .slice none 0 0] 43)).drew
  have hltA : W.heap.size < (W.alloc (.cells #[.int .i64 0, .slice none 0 0, .slice none 0 0, .int .i64 0, .slice none 0 0, .slice none 0 0, .slice none 0 0] 43)).drew.heap.size := by show _ < (W.alloc (.cells #[.int .i64 0, .slice none 0 0, .slice none 0 0, .int .i64 0, .slice none 0 0, .slice none 0 0, .slice none 0 0] 43)).heap.size; simp
  have HS := hide (fun (V : World) (hV : Below W.heap.size W V) => res7 ((hV.block w.heap.size hlW).trans h1))
  obtain ⟨s0, s1, s2, s3, s4, s5, s6, _⟩ := unhide HS W.drew hd
  have HSK := hide (fun (V : World) (hV : Below W.heap.size W V) => (show V.cell? ⟨w.heap.size, 0, none⟩ = some (.int .i64 f.s) ∧ V.cell? ⟨w.heap.size, 1, none⟩ = some (.slice f.ga f.gn f.gc) ∧ V.cell? ⟨w.heap.size, 2, none⟩ = some (.slice f.ba 0 f.bc) ∧ V.cell? ⟨w.heap.size, 3, none⟩ = some (.int .i64 f.n) ∧ V.cell? ⟨w.heap.size, 5, none⟩ = some (.slice f.ta f.tn f.tc) ∧ V.cell? ⟨w.heap.size, 6, none⟩ = some (.slice f.oa 0 f.oc) from by
    obtain ⟨q0, q1, q2, q3, q4, q5, q6, _⟩ := unhide HS V hV
    exact ⟨q0, q1, q2, q3, q5, q6⟩))
  have HRB := hide (fun (V : World) (hV : Below W.heap.size W V) => (hV.block (w.heap.size + 1) hlR).trans h2)
  have HBW := hide hbW
  clear h1 h2 hbW hR s4
  go_region_held3 (fun w' => w'.cell? ⟨w.heap.size, 0, none⟩ = some (.int .i64 f.s) ∧ w'.cell? ⟨w.heap.size, 1, none⟩ = some (.slice f.ga f.gn f.gc) ∧ w'.cell? ⟨w.heap.size, 2, none⟩ = some (.slice f.ba 0 f.bc) ∧ w'.cell? ⟨w.heap.size, 3, none⟩ = some (.int .i64 f.n) ∧ w'.cell? ⟨w.heap.size, 5, none⟩ = some (.slice f.ta f.tn f.tc) ∧ w'.cell? ⟨w.heap.size, 6, none⟩ = some (.slice f.oa 0 f.oc)) (first | (refine ⟨?_, ?_, ?_, ?_, ?_, ?_⟩ <;> with_reducible assumption) | (refine unhide HSK _ ?_; with_reducible assumption) | (refine unhide HSK _ hdA) | (refine unhide HSK _ (bstep ?_ (cell_below _ _)); with_reducible assumption)) (first
    | (go_at_call 81; have hx := hB3; refine (unhide H4 _).mono ?_; rintro e w4 ⟨d4, c4, rfl, hb4, hn4⟩; have hB4 : Below W.heap.size W w4 := (by first | exact bstep hB3 hb4 | exact bstep hB3A hb4); have hB4A := bstep hB4 (cell_below w4 (.cells #[.int .i64 0, .slice none 0 0, .slice none 0 0, .int .i64 0, .slice none 0 0, .slice none 0 0, .slice none 0 0] 43)); have hc4 : Below w3.heap.size w3 w4 := (by first | exact hb4 | exact bstep (cell_below w3 _) hb4); (try (replace zb := (hb4.block _ (Array.getElem?_eq_some_iff.1 zb).1).trans zb)); (try (have zb : w4.heap[w3.heap.size]? = some (.cells #[.int .i64 0, .slice none 0 0, .slice none 0 0, .int .i64 0, .slice none 0 0, .slice none 0 0, .slice none 0 0] 43 (0, 0)) := Eq.trans (hb4.block w3.heap.size hlt3) (World.alloc_heap_new w3 _))); have hlt4 : w4.heap.size < (w4.alloc (.cells #[.int .i64 0, .slice none 0 0, .slice none 0 0, .int .i64 0, .slice none 0 0, .slice none 0 0, .slice none 0 0] 43)).heap.size := (by simp); have HN4 := hide hn4; clear hn4; have hz1 := hB1.size; have hz2 := hc2.size; have hz3 := hc3.size; have hz4 := hc4.size; have hy1 := hb1.size; have hy2 := hb2.size; have hy3 := hb3.size; have hy4 := hb4.size; (try (obtain ⟨F, hst, hA, hoth, hsz, hbel⟩ := stored7 zb (.int .i64 f.s) (.slice d1 f.gn c1) (.slice none 0 0) (.int .i64 f.n) (.slice none 0 0) (.slice d3 f.tn c3) (.slice d4 0 c4) (by simp [Value.oneCell']); have hB6 := hbel W.heap.size W hB4 (by first | exact Nat.le_refl _ | exact hB1.size | exact hB2.size | exact hB3.size); have HG := hide (And.intro hA (And.intro hB6 (own_of (F := F) f (ho1.kept (fun j h1 h2 => (hoth j (by first | omega | (simp at h1 hy1 hy2 hy3 hy4; omega))).trans ((hc4.block j (by omega)).trans ((hc3.block j (by omega)).trans (hc2.block j h2))))) (S3.kept (fun j h1 h2 => (hoth j (by first | omega | (simp at h1 hy1 hy2 hy3 hy4; omega))).trans (hc4.block j h2))) (unhide HFN) (by first | omega | (simp; omega)) (by first | omega | (simp; omega)) (by first | omega | (simp; omega)) (by omega) (unhide HFT) (unhide HN3) (unhide HN4)))); clear hA hoth hsz hbel S3 ho1)); have hstN := newed7 w4 #[.int .i64 0, .slice none 0 0, .slice none 0 0, .int .i64 0, .slice none 0 0, .slice none 0 0, .slice none 0 0] #[.int .i64 f.s, .slice d1 f.gn c1, .slice none 0 0, .int .i64 f.n, .slice none 0 0, .slice d3 f.tn c3, .slice d4 0 c4] rfl rfl (by simp [Value.oneCell']))
    | (go_at_call 81; have hx := hB2; refine (unhide H3 _ (by first | exact hB2 | exact hB2A)).mono ?_; rintro e w3 ⟨d3, c3, rfl, ho3, hb3, hn3⟩; have hB3 : Below W.heap.size W w3 := (by first | exact bstep hB2 hb3 | exact bstep hB2A hb3); have hB3A := bstep hB3 (cell_below w3 (.cells #[.int .i64 0, .slice none 0 0, .slice none 0 0, .int .i64 0, .slice none 0 0, .slice none 0 0, .slice none 0 0] 43)); have hc3 : Below w2.heap.size w2 w3 := (by first | exact hb3 | exact bstep (cell_below w2 _) hb3); (try (replace zb := (hb3.block _ (Array.getElem?_eq_some_iff.1 zb).1).trans zb)); (try (have zb : w3.heap[w2.heap.size]? = some (.cells #[.int .i64 0, .slice none 0 0, .slice none 0 0, .int .i64 0, .slice none 0 0, .slice none 0 0, .slice none 0 0] 43 (0, 0)) := Eq.trans (hb3.block w2.heap.size hlt2) (World.alloc_heap_new w2 _))); have hlt3 : w3.heap.size < (w3.alloc (.cells #[.int .i64 0, .slice none 0 0, .slice none 0 0, .int .i64 0, .slice none 0 0, .slice none 0 0, .slice none 0 0] 43)).heap.size := (by simp); have S3 := segC_of (w := w) ho3; have HN3 := hide hn3; clear ho3 hn3)
    | (go_at_call 80; have hx := hB1; refine (unhide H2 _).mono ?_; rintro e w2 ⟨rfl, hb2⟩; have hB2 : Below W.heap.size W w2 := (by first | exact bstep hB1 hb2 | exact bstep hB1A hb2); have hB2A := bstep hB2 (cell_below w2 (.cells #[.int .i64 0, .slice none 0 0, .slice none 0 0, .int .i64 0, .slice none 0 0, .slice none 0 0, .slice none 0 0] 43)); have hc2 : Below w1.heap.size w1 w2 := (by first | exact hb2 | exact bstep (cell_below w1 _) hb2); (try (replace zb := (hb2.block _ (Array.getElem?_eq_some_iff.1 zb).1).trans zb)); (try (have zb : w2.heap[w1.heap.size]? = some (.cells #[.int .i64 0, .slice none 0 0, .slice none 0 0, .int .i64 0, .slice none 0 0, .slice none 0 0, .slice none 0 0] 43 (0, 0)) := Eq.trans (hb2.block w1.heap.size hlt1) (World.alloc_heap_new w1 _))); have hlt2 : w2.heap.size < (w2.alloc (.cells #[.int .i64 0, .slice none 0 0, .slice none 0 0, .int .i64 0, .slice none 0 0, .slice none 0 0, .slice none 0 0] 43)).heap.size := (by simp))
    | (go_at_call 79; refine (unhide H1 _ (by first | exact hd | exact hdA)).mono ?_; rintro e w1 ⟨d1, c1, rfl, ho1, hb1⟩; have hB1 : Below W.heap.size W w1 := (by first | exact bstep hd hb1 | exact bstep hdA hb1); have hB1A := bstep hB1 (cell_below w1 (.cells #[.int .i64 0, .slice none 0 0, .slice none 0 0, .int .i64 0, .slice none 0 0, .slice none 0 0, .slice none 0 0] 43)); (try (have zb : w1.heap[W.heap.size]? = some (.cells #[.int .i64 0, .slice none 0 0, .slice none 0 0, .int .i64 0, .slice none 0 0, .slice none 0 0, .slice none 0 0] 43 (0, 0)) := Eq.trans (hb1.block W.heap.size hltA) (World.alloc_heap_new W _))); have hlt1 : w1.heap.size < (w1.alloc (.cells #[.int .i64 0, .slice none 0 0, .slice none 0 0, .int .i64 0, .slice none 0 0, .slice none 0 0, .slice none 0 0] 43)).heap.size := (by simp)))
  · have hA := World.alloc_heap_new w4 (.cells #[.int .i64 f.s, .slice d1 f.gn c1, .slice none 0 0, .int .i64 f.n, .slice none 0 0, .slice d3 f.tn c3, .slice d4 0 c4] 43)
    have hbA := cell_below w4 (.cells #[.int .i64 f.s, .slice d1 f.gn c1, .slice none 0 0, .int .i64 f.n, .slice none 0 0, .slice d3 f.tn c3, .slice d4 0 c4] 43)
    have hB6 := bstep hB4 hbA
    have HG := hide (And.intro hA (And.intro hB6 (own_of (F := w4.alloc (.cells #[.int .i64 f.s, .slice d1 f.gn c1, .slice none 0 0, .int .i64 f.n, .slice none 0 0, .slice d3 f.tn c3, .slice d4 0 c4] 43)) f (ho1.kept (fun j h1 h2 => (hbA.block j (by omega)).trans ((hc4.block j (by omega)).trans ((hc3.block j (by omega)).trans (hc2.block j h2))))) (S3.kept (fun j h1 h2 => (hbA.block j (by omega)).trans (hc4.block j h2))) (unhide HFN) (by first | omega | (simp; omega)) (by first | omega | (simp; omega)) (by first | omega | (simp; omega)) (by simp; omega) (unhide HFT) (unhide HN3) (unhide HN4))))
    clear hA hbA S3 ho1 hstN
    generalize w4.alloc (.cells #[.int .i64 f.s, .slice d1 f.gn c1, .slice none 0 0, .int .i64 f.n, .slice none 0 0, .slice d3 f.tn c3, .slice d4 0 c4] 43) = F at *
    generalize w4.heap.size = A at *
    obtain ⟨hA, _, hRD⟩ := unhide HG
    obtain ⟨_, _, _, _, k4, _⟩ := unhide HS F hB6
    obtain ⟨g0, g1, g2, g3, g4, g5, g6, _⟩ := res7 hA
    have hRB := unhide HRB F hB6
    obtain ⟨V6, hst6, hR6, hoth6, hsz6, hbel6⟩ := stored7 hRB (.int .i64 f.s) (.slice d1 f.gn c1) (.slice none 0 0) (.int .i64 f.n) (.slice none 0 0) (.slice d3 f.tn c3) (.slice d4 0 c4) (by simp [Value.oneCell'])
    have hF := bstep (unhide HBW) hB6
    have FIN := hide (And.intro hR6 (And.intro (hRD.other2 hRB hoth6) (hbel6 w.heap.size w hF (by omega))))
    clear hR6 hoth6 hsz6 hbel6 hRD hF hA HG HBW HS HSK HRB hB6 hRB hB1 hB2 hB3 hB4 hB1A hB2A hB3A hB4A hb1 hb2 hb3 hb4 hc2 hc3 hc4 s0 s1 s2 s3 s5 s6 hd hdA hltA hlt1 hlt2 hlt3 hlt4
    go_wp2
    refine wp_loop_rounds 1 ?_
    rw [rounds_succ]
    go_wp2
    obtain ⟨hR6, hRD6, hB6⟩ := unhide FIN
    obtain ⟨r0, r1, r2, r3, r4, r5, r6, _⟩ := res7 hR6
    exact bodyPost_ret (v := .agg #[.int .i64 f.s, .slice d1 f.gn c1, .slice none 0 0, .int .i64 f.n, .slice none 0 0, .slice d3 f.tn c3, .slice d4 0 c4]) (by simp [results, Try.results30, go_sem, r0, r1, r2, r3, r4, r5, r6]) rfl ⟨⟨f.s, f.n, d1, none, none, d3, d4, f.gn, c1, 0, 0, f.tn, c3, c4⟩, rfl, hRD6, hB6⟩
  all_goals
    clear hst hstN
    obtain ⟨hA, _, hRD⟩ := unhide HG
    obtain ⟨_, _, _, _, k4, _⟩ := unhide HS F hB6
    obtain ⟨g0, g1, g2, g3, g4, g5, g6, _⟩ := res7 hA
    have hRB := unhide HRB F hB6
    obtain ⟨V6, hst6, hR6, hoth6, hsz6, hbel6⟩ := stored7 hRB (.int .i64 f.s) (.slice d1 f.gn c1) (.slice none 0 0) (.int .i64 f.n) (.slice none 0 0) (.slice d3 f.tn c3) (.slice d4 0 c4) (by simp [Value.oneCell'])
    have hF := bstep (unhide HBW) hB6
    have FIN := hide (And.intro hR6 (And.intro (hRD.other2 hRB hoth6) (hbel6 w.heap.size w hF (by omega))))
    clear hR6 hoth6 hsz6 hbel6 hRD hF hA HG HBW HS HSK HRB hB6 hRB hB1 hB2 hB3 hB4 hB1A hB2A hB3A hB4A hb1 hb2 hb3 hb4 hc2 hc3 hc4 s0 s1 s2 s3 s5 s6 hd hdA hltA hlt1 hlt2 hlt3 hlt4
    go_wp2
    refine wp_loop_rounds 1 ?_
    rw [rounds_succ]
    go_wp2
    obtain ⟨hR6, hRD6, hB6⟩ := unhide FIN
    obtain ⟨r0, r1, r2, r3, r4, r5, r6, _⟩ := res7 hR6
    exact bodyPost_ret (v := .agg #[.int .i64 f.s, .slice d1 f.gn c1, .slice none 0 0, .int .i64 f.n, .slice none 0 0, .slice d3 f.tn c3, .slice d4 0 c4]) (by simp [results, Try.results30, go_sem, r0, r1, r2, r3, r4, r5, r6]) rfl ⟨⟨f.s, f.n, d1, none, none, d3, d4, f.gn, c1, 0, 0, f.tn, c3, c4⟩, rfl, hRD6, hB6⟩
end Go.Proofs.Ytkedckmpjedjoaa
