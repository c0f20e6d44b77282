import Derived.Test.YtkedckmpjedjoaaQSN10SN11SN12
import Derived.Test.YtkedckmpjedjoaaQSN3
import Derived.Test.YtkedckmpjedjoaaQGX1
import Derived.Test.YtkedckmpjedjoaaQGI7PB1SB1
import Derived.Test.YtkedckmpjedjoaaQW3W4W6
/- Two states of solving at its beginning that say the same. -/
namespace Go.Proofs.Ytkedckmpjedjoaa
open Go.RowKit Go.Shelf
set_option linter.unusedVariables false
set_option linter.unusedSimpArgs false

theorem res5 {W : World} {R : Nat} {T : TypeId} {x0 x1 x2 x3 x4 : Value} (h : W.heap[R]? = some (.cells #[x0, x1, x2, x3, x4] T)) :
    W.cell? ⟨R, 0, none⟩ = some x0 ∧ W.cell? ⟨R, 1, none⟩ = some x1 ∧ W.cell? ⟨R, 2, none⟩ = some x2 ∧ W.cell? ⟨R, 3, none⟩ = some x3 ∧ W.cell? ⟨R, 4, none⟩ = some x4 := by
  simp [World.cell?, h]

set_option maxRecDepth 100000 in
set_option maxHeartbeats 4000000 in
theorem eqSlvGoal_yes (pa pb pc qa qb qc : Option Addr) (px py pz qx qy qz : Nat) (t : List C) (w : World) (hp : Trip w pa pb pc t [] []) (hq : Trip w qa qb qc t [] []) :
    Calls Try.prog 121 #[.agg #[.int .i64 1, .slice pa t.length px, .slice pb 0 py, .slice pc 0 pz, .int .i64 0], .agg #[.int .i64 1, .slice qa t.length qx, .slice qb 0 qy, .slice qc 0 qz, .int .i64 0]] w fun e w' => e = .returned (.bool true) ∧ Below w.heap.size w w' := by
  have hb0 := cell_below w (.cells #[.int .i64 1, .slice pa t.length px, .slice pb 0 py, .slice pc 0 pz, .int .i64 0] 95)
  have h0 := World.alloc_heap_new w (.cells #[.int .i64 1, .slice pa t.length px, .slice pb 0 py, .slice pc 0 pz, .int .i64 0] 95)
  have hsz : (w.alloc (.cells #[.int .i64 1, .slice pa t.length px, .slice pb 0 py, .slice pc 0 pz, .int .i64 0] 95)).heap.size = w.heap.size + 1 := by simp
  have hb1 := cell_below (w.alloc (.cells #[.int .i64 1, .slice pa t.length px, .slice pb 0 py, .slice pc 0 pz, .int .i64 0] 95)) (.cells #[.int .i64 1, .slice qa t.length qx, .slice qb 0 qy, .slice qc 0 qz, .int .i64 0] 95)
  have h1 := (hb1.block w.heap.size (by omega)).trans h0
  have h2 := World.alloc_heap_new (w.alloc (.cells #[.int .i64 1, .slice pa t.length px, .slice pb 0 py, .slice pc 0 pz, .int .i64 0] 95)) (.cells #[.int .i64 1, .slice qa t.length qx, .slice qb 0 qy, .slice qc 0 qz, .int .i64 0] 95)
  rw [hsz] at h2
  have hB := bstep hb0 hb1
  have hE0 := eqPrgGoal_yes 1 pa pb pc qa qb qc px py pz qx qy qz t [] [] ((w.alloc (.cells #[.int .i64 1, .slice pa t.length px, .slice pb 0 py, .slice pc 0 pz, .int .i64 0] 95)).alloc (.cells #[.int .i64 1, .slice qa t.length qx, .slice qb 0 qy, .slice qc 0 qz, .int .i64 0] 95)) (hp.below hB) (hq.below hB)
  have HE := hide hE0
  clear hE0 hp hq h0 hb0 hb1 hsz
  go_enter Try.func121, Try.ntmps121
  go_upto_region 1 with fail
  generalize (w.alloc (.cells #[.int .i64 1, .slice pa t.length px, .slice pb 0 py, .slice pc 0 pz, .int .i64 0] 95)).alloc (.cells #[.int .i64 1, .slice qa t.length qx, .slice qb 0 qy, .slice qc 0 qz, .int .i64 0] 95) = W at *
  obtain ⟨a0, a1, a2, a3, a4⟩ := res5 h1
  obtain ⟨b0, b1, b2, b3, b4⟩ := res5 h2
  go_wp2_with fail
  refine (unhide HE).mono ?_
  rintro e w1 ⟨rfl, hb3⟩
  have l1 := (Array.getElem?_eq_some_iff.1 h1).1
  have l2 := (Array.getElem?_eq_some_iff.1 h2).1
  obtain ⟨_, _, _, _, c4⟩ := res5 ((hb3.block _ l1).trans h1)
  obtain ⟨_, _, _, _, d4⟩ := res5 ((hb3.block _ l2).trans h2)
  have HB := hide (bstep hB hb3)
  clear a0 a1 a2 a3 a4 b0 b1 b2 b3 b4 h1 h2 HE hb3 hB l1 l2
  go_wp2
  go_ret
  exact ⟨rfl, unhide HB⟩

set_option maxRecDepth 100000 in
set_option maxHeartbeats 4000000 in
theorem eqSg_one (g g' : Nat) (cg cg' : Nat) (pa pb pc qa qb qc : Option Addr) (px py pz qx qy qz : Nat) (t : List C) (w : World) (hp : Trip w pa pb pc t [] []) (hq : Trip w qa qb qc t [] [])
    (a0 : w.cell? ⟨g, 0, none⟩ = some (.int .i64 1)) (a1 : w.cell? ⟨g, 1, none⟩ = some (.slice pa t.length px)) (a2 : w.cell? ⟨g, 2, none⟩ = some (.slice pb 0 py)) (a3 : w.cell? ⟨g, 3, none⟩ = some (.slice pc 0 pz)) (a4 : w.cell? ⟨g, 4, none⟩ = some (.int .i64 0))
    (b0 : w.cell? ⟨g', 0, none⟩ = some (.int .i64 1)) (b1 : w.cell? ⟨g', 1, none⟩ = some (.slice qa t.length qx)) (b2 : w.cell? ⟨g', 2, none⟩ = some (.slice qb 0 qy)) (b3 : w.cell? ⟨g', 3, none⟩ = some (.slice qc 0 qz)) (b4 : w.cell? ⟨g', 4, none⟩ = some (.int .i64 0)) :
    Calls Try.prog 62 #[.slice (some ⟨g, 0, none⟩) 1 cg, .slice (some ⟨g', 0, none⟩) 1 cg'] w fun e w' => e = .returned (.bool true) ∧ Below w.heap.size w w' := by
  have hd : Below w.heap.size w w.drew := (Below.refl _ _).drew
  have HE := hide (eqSlvGoal_yes pa pb pc qa qb qc px py pz qx qy qz t w.drew (hp.below hd) (hq.below hd))
  have lg : g < w.heap.size := World.block_lt_of_cell? w ⟨_, _, none⟩ a0
  have lg' : g' < w.heap.size := World.block_lt_of_cell? w ⟨_, _, none⟩ b0
  have hdd := hide hd
  replace a0 : w.drew.cell? ⟨g, 0, none⟩ = some (.int .i64 1) := a0
  replace a1 : w.drew.cell? ⟨g, 1, none⟩ = some (.slice pa t.length px) := a1
  replace a2 : w.drew.cell? ⟨g, 2, none⟩ = some (.slice pb 0 py) := a2
  replace a3 : w.drew.cell? ⟨g, 3, none⟩ = some (.slice pc 0 pz) := a3
  replace a4 : w.drew.cell? ⟨g, 4, none⟩ = some (.int .i64 0) := a4
  replace b0 : w.drew.cell? ⟨g', 0, none⟩ = some (.int .i64 1) := b0
  replace b1 : w.drew.cell? ⟨g', 1, none⟩ = some (.slice qa t.length qx) := b1
  replace b2 : w.drew.cell? ⟨g', 2, none⟩ = some (.slice qb 0 qy) := b2
  replace b3 : w.drew.cell? ⟨g', 3, none⟩ = some (.slice qc 0 qz) := b3
  replace b4 : w.drew.cell? ⟨g', 4, none⟩ = some (.int .i64 0) := b4
  clear hp hq hd
  go_enter Try.func62, Try.ntmps62
  go_wp2
  refine wp_loop_rounds 2 ?_
  rw [rounds_succ]
  go_upto_region 6 with fail
  go_region_held3 (fun w' => w'.cell? ⟨g, 0, none⟩ = some (.int .i64 1) ∧ w'.cell? ⟨g, 1, none⟩ = some (.slice pa t.length px) ∧ w'.cell? ⟨g, 2, none⟩ = some (.slice pb 0 py) ∧ w'.cell? ⟨g, 3, none⟩ = some (.slice pc 0 pz) ∧ w'.cell? ⟨g, 4, none⟩ = some (.int .i64 0) ∧ w'.cell? ⟨g', 0, none⟩ = some (.int .i64 1) ∧ w'.cell? ⟨g', 1, none⟩ = some (.slice qa t.length qx) ∧ w'.cell? ⟨g', 2, none⟩ = some (.slice qb 0 qy) ∧ w'.cell? ⟨g', 3, none⟩ = some (.slice qc 0 qz) ∧ w'.cell? ⟨g', 4, none⟩ = some (.int .i64 0)) (first | (refine ⟨?_, ?_, ?_, ?_, ?_, ?_, ?_, ?_, ?_, ?_⟩ <;> with_reducible assumption) | go_keep) (first
    | (go_at_call 121; refine (unhide HE).mono ?_; rintro e w1 ⟨rfl, hb1⟩; have c0 := (hb1.cell (p := ⟨g, 0, none⟩) lg).trans a0; have c1 := (hb1.cell (p := ⟨g, 1, none⟩) lg).trans a1; have c2 := (hb1.cell (p := ⟨g, 2, none⟩) lg).trans a2; have c3 := (hb1.cell (p := ⟨g, 3, none⟩) lg).trans a3; have c4 := (hb1.cell (p := ⟨g, 4, none⟩) lg).trans a4; have d0 := (hb1.cell (p := ⟨g', 0, none⟩) lg').trans b0; have d1 := (hb1.cell (p := ⟨g', 1, none⟩) lg').trans b1; have d2 := (hb1.cell (p := ⟨g', 2, none⟩) lg').trans b2; have d3 := (hb1.cell (p := ⟨g', 3, none⟩) lg').trans b3; have d4 := (hb1.cell (p := ⟨g', 4, none⟩) lg').trans b4))
  go_wp2
  rw [rounds_succ]
  go_wp2
  go_ret
  exact ⟨rfl, bstep (unhide hdd) hb1⟩
end Go.Proofs.Ytkedckmpjedjoaa

/- Two states that say the same: eqSlvState. -/
namespace Go.Proofs.Ytkedckmpjedjoaa
open Go.RowKit Go.Shelf
set_option linter.unusedVariables false
set_option linter.unusedSimpArgs false

theorem eqBinds_nil (a a' : Option Addr) (c c' : Nat) (w : World) : Calls Try.prog 63 #[.slice a 0 c, .slice a' 0 c'] w fun e w' => e = .returned (.bool true) ∧ w' = w := by
  go_enter Try.func63, Try.ntmps63
  go_wp2
  refine wp_loop_rounds 1 ?_
  rw [rounds_succ]
  go_wp2
  go_ret
  exact ⟨rfl, rfl⟩
theorem eqChoices_nil (a a' : Option Addr) (c c' : Nat) (w : World) : Calls Try.prog 64 #[.slice a 0 c, .slice a' 0 c'] w fun e w' => e = .returned (.bool true) ∧ w' = w := by
  go_enter Try.func64, Try.ntmps64
  go_wp2
  refine wp_loop_rounds 1 ?_
  rw [rounds_succ]
  go_wp2
  go_ret
  exact ⟨rfl, rfl⟩
theorem eqGoals_nil (a a' : Option Addr) (c c' : Nat) (w : World) : Calls Try.prog 62 #[.slice a 0 c, .slice a' 0 c'] w fun e w' => e = .returned (.bool true) ∧ Below w.heap.size w w' := by
  go_enter Try.func62, Try.ntmps62
  go_wp2
  refine wp_loop_rounds 1 ?_
  rw [rounds_succ]
  go_wp2
  go_ret
  exact ⟨rfl, Below.refl _ _⟩

set_option maxRecDepth 100000 in
set_option maxHeartbeats 4000000 in
theorem eqSlvState_gen (s n : Int) (ga ga' ba ba' ha ha' ta ta' oa oa' : Option Addr) (gn gc gc' bc bc' hc hc' tc tc' oc oc' : Nat) (t : List C) (w : World)
    (hm : t.length ≤ maxLen) (hT : Row w ta t) (hT' : Row w ta' t)
    (HG0 : ∀ W, Below w.heap.size w W → Calls Try.prog 62 #[.slice ga gn gc, .slice ga' gn gc'] W fun e w' => e = .returned (.bool true) ∧ Below W.heap.size W w') :
    Calls Try.prog 20 #[.agg #[.int .i64 s, .slice ga gn gc, .slice ba 0 bc, .int .i64 n, .slice ha 0 hc, .slice ta t.length tc, .slice oa 0 oc], .agg #[.int .i64 s, .slice ga' gn gc', .slice ba' 0 bc', .int .i64 n, .slice ha' 0 hc', .slice ta' t.length tc', .slice oa' 0 oc']] w fun e w' => e = .returned (.bool true) ∧ Below w.heap.size w w' := by
  have hb0 := cell_below w (.cells #[.int .i64 s, .slice ga gn gc, .slice ba 0 bc, .int .i64 n, .slice ha 0 hc, .slice ta t.length tc, .slice oa 0 oc] 43)
  have h0 := World.alloc_heap_new w (.cells #[.int .i64 s, .slice ga gn gc, .slice ba 0 bc, .int .i64 n, .slice ha 0 hc, .slice ta t.length tc, .slice oa 0 oc] 43)
  have hsz : (w.alloc (.cells #[.int .i64 s, .slice ga gn gc, .slice ba 0 bc, .int .i64 n, .slice ha 0 hc, .slice ta t.length tc, .slice oa 0 oc] 43)).heap.size = w.heap.size + 1 := by simp
  have hb1 := cell_below (w.alloc (.cells #[.int .i64 s, .slice ga gn gc, .slice ba 0 bc, .int .i64 n, .slice ha 0 hc, .slice ta t.length tc, .slice oa 0 oc] 43)) (.cells #[.int .i64 s, .slice ga' gn gc', .slice ba' 0 bc', .int .i64 n, .slice ha' 0 hc', .slice ta' t.length tc', .slice oa' 0 oc'] 43)
  have h1 := (hb1.block w.heap.size (by omega)).trans h0
  have h2 := World.alloc_heap_new (w.alloc (.cells #[.int .i64 s, .slice ga gn gc, .slice ba 0 bc, .int .i64 n, .slice ha 0 hc, .slice ta t.length tc, .slice oa 0 oc] 43)) (.cells #[.int .i64 s, .slice ga' gn gc', .slice ba' 0 bc', .int .i64 n, .slice ha' 0 hc', .slice ta' t.length tc', .slice oa' 0 oc'] 43)
  rw [hsz] at h2
  have hB := bstep hb0 hb1
  have HG := hide HG0
  have HT := hide (And.intro hT hT')
  have en : (n != n) = false := by simp
  have es : (s != s) = false := by simp
  clear HG0 hT hT' h0 hb0 hb1 hsz
  go_enter Try.func20, Try.ntmps20
  go_upto_region 1 with fail
  generalize (w.alloc (.cells #[.int .i64 s, .slice ga gn gc, .slice ba 0 bc, .int .i64 n, .slice ha 0 hc, .slice ta t.length tc, .slice oa 0 oc] 43)).alloc (.cells #[.int .i64 s, .slice ga' gn gc', .slice ba' 0 bc', .int .i64 n, .slice ha' 0 hc', .slice ta' t.length tc', .slice oa' 0 oc'] 43) = w0 at *
  obtain ⟨a0, a1, a2, a3, a4, a5, a6, _⟩ := res7 h1
  obtain ⟨b0, b1, b2, b3, b4, b5, b6, _⟩ := res7 h2
  have HX := hide (unhide HG w0 hB)
  go_wp2_with fail
  refine (unhide HX).mono ?_
  rintro e w1 ⟨rfl, hb⟩
  clear a0 a1 a2 a3 a4 a5 a6 b0 b1 b2 b3 b4 b5 b6 HX
  replace h1 := (hb.block _ (Array.getElem?_eq_some_iff.1 h1).1).trans h1
  replace h2 := (hb.block _ (Array.getElem?_eq_some_iff.1 h2).1).trans h2
  replace hB := bstep hB hb
  clear hb
  obtain ⟨a0, a1, a2, a3, a4, a5, a6, _⟩ := res7 h1
  obtain ⟨b0, b1, b2, b3, b4, b5, b6, _⟩ := res7 h2
  have HX := hide (eqBinds_nil ba ba' bc bc' w1)
  go_wp2_with fail
  refine (unhide HX).mono ?_
  rintro e w2 ⟨rfl, rfl⟩
  clear HX
  have HX := hide (eqChoices_nil ha ha' hc hc' w2)
  go_wp2_with fail
  refine (unhide HX).mono ?_
  rintro e w3 ⟨rfl, rfl⟩
  clear HX
  have HX := hide ((sameS_self t) ▸ eqTrmCellS_any ta ta' tc tc' t t w3 hm ((unhide HT).1.below hB) ((unhide HT).2.below hB))
  go_wp2_with fail
  refine (unhide HX).mono ?_
  rintro e w4 ⟨rfl, hb⟩
  clear a0 a1 a2 a3 a4 a5 a6 b0 b1 b2 b3 b4 b5 b6 HX
  replace h1 := (hb.block _ (Array.getElem?_eq_some_iff.1 h1).1).trans h1
  replace h2 := (hb.block _ (Array.getElem?_eq_some_iff.1 h2).1).trans h2
  replace hB := bstep hB hb
  clear hb
  obtain ⟨a0, a1, a2, a3, a4, a5, a6, _⟩ := res7 h1
  obtain ⟨b0, b1, b2, b3, b4, b5, b6, _⟩ := res7 h2
  have HX := hide ((sameS_self ([] : List C)) ▸ eqTrmCellS_any oa oa' oc oc' [] [] w4 (Nat.zero_le _) (.inl rfl) (.inl rfl))
  go_wp2_with fail
  refine (unhide HX).mono ?_
  rintro e w5 ⟨rfl, hb⟩
  clear a0 a1 a2 a3 a4 a5 a6 b0 b1 b2 b3 b4 b5 b6 HX
  replace h1 := (hb.block _ (Array.getElem?_eq_some_iff.1 h1).1).trans h1
  replace h2 := (hb.block _ (Array.getElem?_eq_some_iff.1 h2).1).trans h2
  replace hB := bstep hB hb
  clear hb
  obtain ⟨a0, a1, a2, a3, a4, a5, a6, _⟩ := res7 h1
  obtain ⟨b0, b1, b2, b3, b4, b5, b6, _⟩ := res7 h2
  clear h1 h2
  go_wp2
  go_ret
  exact ⟨rfl, hB⟩
end Go.Proofs.Ytkedckmpjedjoaa

/- The walks of the laws' helpers over bindings: szSubBind(S), toSubBind(S), eqSubBind(S). -/
namespace Go.Proofs.Ytkedckmpjedjoaa
open Go.RowKit
set_option linter.unusedVariables false
set_option linter.unusedSimpArgs false

set_option maxHeartbeats 400000 in
theorem szSubBind_any (v : Int) (ao : Option Addr) (cap : Nat) (t : List C) (l : Int) (w : World) (hm : t.length ≤ maxLen) (hA : Row w ao t) (hF : Fit t) (h0 : 0 ≤ l) (h1 : l ≤ 1048576) :
    Calls Try.prog 132 #[.agg #[.int .i64 v, .slice ao t.length cap], .int .i64 l] w fun e w' => ∃ r : Int, e = .returned (.int .i64 r) ∧ (r < 0 ∨ (0 ≤ r ∧ r + t.length ≤ l)) ∧ Below w.heap.size w w' := by
  go_enter Try.func132, Try.ntmps132
  go_wp2_with fail
  refine (szTrmCellS_any ao cap t l _ hm (hA.below (cell_below _ _)) hF h0 h1).mono ?_
  rintro e w1 ⟨r, rfl, hr, hb1⟩
  have hB := bstep (cell_below _ _) hb1
  by_cases hn : r < 0
  · go_wp2
    go_ret
    exact ⟨_, rfl, by omega, hB⟩
  · go_wp2
    go_ret
    exact ⟨_, rfl, by omega, hB⟩

set_option maxHeartbeats 1000000 in
theorem szSubBindS_some (b off cap : Nat) (s : List B) (l : Int) (w : World) (hm : s.length ≤ maxLen) (hA : AtB w b off s) (hF : FitB s) (h0 : 0 ≤ l) (h1 : l ≤ 1048576) :
    Calls Try.prog 87 #[.slice (some ⟨b, off, none⟩) s.length cap, .int .i64 l] w fun e w' => ∃ r : Int, e = .returned (.int .i64 r) ∧ (r < 0 ∨ (0 ≤ r ∧ r + s.length + tot s ≤ l)) ∧ Below w.heap.size w w' := by
  unfold maxLen at hm
  by_cases h : l - s.length < 0
  · go_enter Try.func87, Try.ntmps87
    go_wp2
    go_ret
    exact ⟨_, rfl, by omega, Below.refl _ _⟩
  · go_enter Try.func87, Try.ntmps87
    go_wp2
    go_loopw [1, 5] (fun m i wr => ∃ (k : Nat) (x : Int), k ≤ s.length ∧ i = .int .i64 k ∧ m = .int .i64 x ∧ 0 ≤ x ∧ x + s.length + tot (s.take k) ≤ l ∧ Below w.heap.size w wr) (fun _ i _ => s.length - (intOf i).toNat)
    case atStart => exact ⟨0, _, Nat.zero_le _, rfl, rfl, by omega, by simp [tot], Below.refl _ _⟩
    case round =>
      obtain ⟨k, x, hk, rfl, rfl, hx0, hx1, hB⟩ := hrel
      have HX := hide hx1
      have hxl : x ≤ 1048576 := by omega
      clear hx1
      by_cases hlt : k < s.length
      · obtain ⟨c0, ao, cp, c1, hc, hcm, hR⟩ := (hA.below hB) k hlt
        have hf := (hF _ (List.getElem_mem hlt)).1
        have HT := hide (tot_take_succ hlt)
        obtain ⟨y, hy⟩ : ∃ y, y = s[k] := ⟨_, rfl⟩
        rw [← hy] at c0 c1 hf hR hc HT
        clear hy
        have HC := hide hc
        have HCM := hide hcm
        have hml : y.t.length ≤ maxLen := by omega
        clear hc hcm
        go_wp2_with fail
        refine (szSubBind_any y.v ao cp y.t x _ hml hR hf hx0 hxl).mono ?_
        rintro e w1 ⟨r, rfl, hr, hb1⟩
        clear c0 c1
        have HR := hide hr
        clear hr
        by_cases hr : r < 0
        · go_wp2
          go_ret
          exact ⟨_, rfl, by omega, bstep hB hb1⟩
        · go_wp2
          go_roundw
          case rel =>
            refine ⟨k + 1, r, by omega, by go_num, rfl, by omega, ?_, bstep hB hb1⟩
            have := unhide HR
            have := unhide HX
            rw [unhide HT]
            omega
          case measure => simp [intOf]; omega
      · go_wp2
        go_ret
        refine ⟨_, rfl, .inr ⟨hx0, ?_⟩, hB⟩
        have := unhide HX
        rw [List.take_of_length_le (by omega)] at this
        exact this

set_option maxHeartbeats 400000 in
theorem szSubBindS_none (ao : Option Addr) (cap : Nat) (l : Int) (w : World) (h0 : 0 ≤ l) (h1 : l ≤ 1048576) :
    Calls Try.prog 87 #[.slice ao 0 cap, .int .i64 l] w fun e w' => ∃ r : Int, e = .returned (.int .i64 r) ∧ (r < 0 ∨ (0 ≤ r ∧ r + (0 : Nat) + tot [] ≤ l)) ∧ Below w.heap.size w w' := by
  go_enter Try.func87, Try.ntmps87
  go_wp2
  refine wp_loop_rounds 1 ?_
  rw [rounds_succ]
  go_wp2
  go_ret
  exact ⟨_, rfl, .inr ⟨h0, by simp [tot]⟩, Below.refl _ _⟩

theorem szSubBindS_any (ao : Option Addr) (cap : Nat) (s : List B) (l : Int) (w : World) (hm : s.length ≤ maxLen) (hA : RowB w ao s) (hF : FitB s) (h0 : 0 ≤ l) (h1 : l ≤ 1048576) :
    Calls Try.prog 87 #[.slice ao s.length cap, .int .i64 l] w fun e w' => ∃ r : Int, e = .returned (.int .i64 r) ∧ (r < 0 ∨ (0 ≤ r ∧ r + s.length + tot s ≤ l)) ∧ Below w.heap.size w w' := by
  rcases hA with rfl | ⟨b, off, rfl, hA⟩
  · exact szSubBindS_none ao cap l w h0 h1
  · exact szSubBindS_some b off cap s l w hm hA hF h0 h1

theorem Row.alloc {w : World} {ao : Option Addr} {t : List C} (h : Row w ao t) (o : Obj) : Row (w.alloc o) ao t := h.below (cell_below _ _)

set_option maxHeartbeats 400000 in
theorem toSubBind_any (v : Int) (ao : Option Addr) (cap : Nat) (t : List C) (w : World) (hm : t.length ≤ 1048576) (hA : Row w ao t) :
    Calls Try.prog 135 #[.agg #[.int .i64 v, .slice ao t.length cap]] w fun e w' => ∃ g, e = .returned (.agg #[.int .i64 v, .slice (some ⟨g, 0, none⟩) t.length t.length]) ∧ g < w'.heap.size ∧ w'.ownsRow w.heap.size 98 3 (.slice (some ⟨g, 0, none⟩) t.length t.length) t.length (flat t) ∧ Below w.heap.size w w' := by
  go_enter Try.func135, Try.ntmps135
  go_wp2_with fail
  obtain ⟨W, hW⟩ : ∃ W, W = ((w.alloc (Obj.cells #[Value.int IntKind.i64 v, Value.slice ao t.length cap] 191)).alloc (Obj.cells #[Value.int IntKind.i64 0, Value.slice none 0 0] 172)).alloc (Obj.cells #[Value.int IntKind.i64 v, Value.slice none 0 0] 172) := ⟨_, rfl⟩
  have hB0 : Below w.heap.size w W := by rw [hW]; exact below3 _ _ _ _
  have hsz : W.heap.size = w.heap.size + 3 := by rw [hW]; simp
  have c0 : W.cell? ⟨w.heap.size + 1 + 1, 0, none⟩ = some (.int .i64 v) := by rw [hW]; simp [go_sem]
  have c1 : W.cell? ⟨w.heap.size + 1 + 1, 1, none⟩ = some (.slice none 0 0) := by rw [hW]; simp [go_sem]
  have f1 : W.frozen? ⟨w.heap.size + 1 + 1, 1, none⟩ = false := by rw [hW]; simp [go_sem]
  have c2 : W.cell? ⟨w.heap.size + 1, 0, none⟩ = some (.int .i64 0) := by rw [hW]; simp [go_sem]
  have c3 : W.cell? ⟨w.heap.size + 1, 1, none⟩ = some (.slice none 0 0) := by rw [hW]; simp [go_sem]
  have f2 : W.frozen? ⟨w.heap.size + 1, 0, none⟩ = false := by rw [hW]; simp [go_sem]
  have f3 : W.frozen? ⟨w.heap.size + 1, 1, none⟩ = false := by rw [hW]; simp [go_sem]
  rw [← hW]
  clear hW
  refine (toTrmCellS_any ao cap t W hm (hA.below hB0)).mono ?_
  rintro e w1 ⟨rfl, ho1, hb1⟩
  have d0 := (hb1.cell (p := ⟨w.heap.size + 1 + 1, 0, none⟩) (by simp; omega)).trans c0
  have d1 := (hb1.cell (p := ⟨w.heap.size + 1 + 1, 1, none⟩) (by simp; omega)).trans c1
  have d2 := (hb1.cell (p := ⟨w.heap.size + 1, 0, none⟩) (by simp; omega)).trans c2
  have d3 := (hb1.cell (p := ⟨w.heap.size + 1, 1, none⟩) (by simp; omega)).trans c3
  have g1 := (hb1.frozen (p := ⟨w.heap.size + 1 + 1, 1, none⟩) (by simp; omega)).trans f1
  have g2 := (hb1.frozen (p := ⟨w.heap.size + 1, 0, none⟩) (by simp; omega)).trans f2
  have g3 := (hb1.frozen (p := ⟨w.heap.size + 1, 1, none⟩) (by simp; omega)).trans f3
  have hb2 := bstep hB0 hb1
  have hgl := ho1.lt W.heap.size rfl
  clear c0 c1 f1 c2 c3 f2 f3
  go_wp2
  refine bodyPost_ret (v := .agg #[.int .i64 v, .slice (some ⟨W.heap.size, 0, none⟩) t.length t.length]) (by simp [results, Try.results135, go_sem, *]) rfl ⟨_, rfl, ?_, ?_, ?_⟩
  · simp; omega
  · refine own_lo (base := W.heap.size) (own_block ho1 (fun k e => ?_)) (fun k e => ?_)
    · have e' : W.heap.size = k := by simpa [Value.ownBlock] using e
      rw [Below.heap_setCell _ _ _ _ (by simp; omega), Below.heap_setCell _ _ _ _ (by simp; omega), Below.heap_setCell _ _ _ _ (by simp; omega)]
    · have e' : W.heap.size = k := by simpa [Value.ownBlock] using e
      omega
  · exact ((hb2.setCell (p := ⟨w.heap.size + 1 + 1, 1, none⟩) (by simp; omega) _).setCell (p := ⟨w.heap.size + 1, 0, none⟩) (by simp) _).setCell (p := ⟨w.heap.size + 1, 1, none⟩) (by simp) _
end Go.Proofs.Ytkedckmpjedjoaa
