import Derived.Test.YtkedckmpjedjoaaQSN3
import Derived.Test.YtkedckmpjedjoaaQTG4
import Derived.Deep.RegionWith
/- Solving at its beginning: the program's goals that are left, one by one. -/
namespace Go.Proofs.Ytkedckmpjedjoaa
open Go.RowKit Go.Shelf
set_option linter.unusedVariables false
set_option linter.unusedSimpArgs false

set_option maxRecDepth 100000 in
set_option maxHeartbeats 1000000 in
theorem mostCut_nil (w : World) : Calls Try.prog 171 #[.pointer none] w fun e w' => e = .returned (.int .i64 0) ∧ w' = w := by
  go_enter Try.func171, Try.ntmps171
  go_wp2
  go_ret
  exact ⟨rfl, rfl⟩

set_option maxRecDepth 100000 in
set_option maxHeartbeats 1000000 in
theorem with_nil (p : Nat) (w : World) : Calls Try.prog 156 #[.pointer none, .iface 222 (.agg #[.pointer (some ⟨p, 0, none⟩)]), .int .i64 0] w fun e w' => e = .returned (.pointer (some ⟨w.heap.size, 0, none⟩)) ∧ w' = w.alloc (.cells #[.iface 222 (.agg #[.pointer (some ⟨p, 0, none⟩)]), .int .i64 0, .int .i64 0, .pointer none] 254) := by
  have H := hide (mostCut_nil w)
  go_enter Try.func156, Try.ntmps156
  go_wp2_with fail
  refine (unhide H).mono ?_
  rintro e w1 ⟨rfl, rfl⟩
  go_wp2
  go_ret
  exact ⟨rfl, rfl⟩
end Go.Proofs.Ytkedckmpjedjoaa

/- Solving at its beginning: nothing bound, nothing else to do. -/
namespace Go.Proofs.Ytkedckmpjedjoaa
open Go.RowKit Go.Shelf
set_option linter.unusedVariables false
set_option linter.unusedSimpArgs false

set_option maxRecDepth 100000 in
set_option maxHeartbeats 1000000 in
theorem ring_nil (P : Nat) (w : World) (hl : w.cell? ⟨P, 0, none⟩ = some (.slice none 0 0)) : Calls Try.prog 174 #[.pointer (some ⟨P, 0, none⟩)] w fun e w' => e = .returned (.bool false) ∧ Below w.heap.size w w' := by
  have hmm := @run_makeMap Try.prog
  have hB0 : Below w.heap.size w (w.alloc (.map #[] 0)) := cell_below _ _
  have hP := World.block_lt_of_cell? w ⟨_, _, none⟩ hl
  have hl' := (hB0.cell (p := ⟨P, 0, none⟩) hP).trans hl
  go_enter Try.func174, Try.ntmps174
  go_wp2
  refine wp_loop_rounds 1 ?_
  rw [rounds_succ]
  go_wp2
  refine wp_loop_rounds 1 ?_
  rw [rounds_succ]
  go_wp2
  go_ret
  exact ⟨rfl, hB0⟩

set_option maxRecDepth 100000 in
set_option maxHeartbeats 1000000 in
theorem bindings_nil (w : World) : Calls Try.prog 157 #[.slice none 0 0] w fun e w' => e = .returned (.pointer (some ⟨w.heap.size + 1, 0, none⟩)) ∧ w'.cell? ⟨w.heap.size + 1, 0, none⟩ = some (.slice none 0 0) ∧ Below w.heap.size w w' := by
  have hmm := @run_makeMap Try.prog
  have hB0 : Below w.heap.size w ((w.alloc (.map #[] 0)).alloc (.cells #[.slice none 0 0, .map (some w.heap.size)] 229)) := ((Below.refl _ w).alloc (Nat.le_refl _) _).alloc (by simp) _
  have hc : ((w.alloc (.map #[] 0)).alloc (.cells #[.slice none 0 0, .map (some w.heap.size)] 229)).cell? ⟨w.heap.size + 1, 0, none⟩ = some (.slice none 0 0) := by simp [go_sem]
  have HR := hide (ring_nil _ _ hc)
  go_enter Try.func157, Try.ntmps157
  go_wp2
  refine wp_loop_rounds 1 ?_
  rw [rounds_succ]
  go_wp2_with fail
  refine (unhide HR).mono ?_
  clear HR
  rintro e W1 ⟨rfl, hb1⟩
  have hB1 := hide (bstep hB0 hb1)
  have hc1 := hide ((hb1.cell (p := ⟨w.heap.size + 1, 0, none⟩) (by simp)).trans hc)
  clear hB0 hc hb1
  go_wp2
  go_ret
  exact ⟨rfl, unhide hc1, unhide hB1⟩

set_option maxRecDepth 100000 in
set_option maxHeartbeats 1000000 in
theorem tellBinds_nil (w : World) : Calls Try.prog 159 #[.slice none 0 0] w fun e w' => e = .returned (.slice none 0 0) ∧ w' = w := by
  go_enter Try.func159, Try.ntmps159
  go_wp2
  refine wp_loop_rounds 1 ?_
  rw [rounds_succ]
  go_wp2
  go_ret
  exact ⟨rfl, rfl⟩

set_option maxRecDepth 100000 in
set_option maxHeartbeats 1000000 in
theorem size_nil (w : World) : Calls Try.prog 160 #[.pointer none] w fun e w' => e = .returned (.int .i64 0) ∧ w' = w := by
  go_enter Try.func160, Try.ntmps160
  go_wp2
  go_ret
  exact ⟨rfl, rfl⟩
end Go.Proofs.Ytkedckmpjedjoaa

/- Solving at its beginning: the program's standing. -/
namespace Go.Proofs.Ytkedckmpjedjoaa
open Go.RowKit Go.Shelf
set_option linter.unusedVariables false
set_option linter.unusedSimpArgs false

theorem four_cells (w : World) (x0 x1 x2 x3 : Value) (T : TypeId) : (w.alloc (.cells #[x0, x1, x2, x3] T)).cell? ⟨w.heap.size, 0, none⟩ = some x0 ∧ (w.alloc (.cells #[x0, x1, x2, x3] T)).cell? ⟨w.heap.size, 1, none⟩ = some x1 ∧ (w.alloc (.cells #[x0, x1, x2, x3] T)).cell? ⟨w.heap.size, 2, none⟩ = some x2 ∧ (w.alloc (.cells #[x0, x1, x2, x3] T)).cell? ⟨w.heap.size, 3, none⟩ = some x3 := by
  have hb := World.alloc_heap_new w (.cells #[x0, x1, x2, x3] T)
  refine ⟨?_, ?_, ?_, ?_⟩ <;> (simp only [World.cell?]; rw [hb]; rfl)
/-- The one goal that is left, and that nothing is bound. -/
def Begun (w : World) (p g b : Nat) : Prop := w.cell? ⟨g, 0, none⟩ = some (.iface 222 (.agg #[.pointer (some ⟨p, 0, none⟩)])) ∧ w.cell? ⟨g, 1, none⟩ = some (.int .i64 0) ∧ w.cell? ⟨g, 2, none⟩ = some (.int .i64 0) ∧ w.cell? ⟨g, 3, none⟩ = some (.pointer none) ∧ w.cell? ⟨b, 0, none⟩ = some (.slice none 0 0)
theorem Begun.below {w w' : World} {p g b : Nat} (h : Begun w p g b) (hb : Below w.heap.size w w') : Begun w' p g b := by
  obtain ⟨h0, h1, h2, h3, h4⟩ := h
  have l1 := World.block_lt_of_cell? w ⟨_, _, none⟩ h0
  have l2 := World.block_lt_of_cell? w ⟨_, _, none⟩ h4
  exact ⟨(hb.cell (p := ⟨g, 0, none⟩) l1).trans h0, (hb.cell (p := ⟨g, 1, none⟩) l1).trans h1, (hb.cell (p := ⟨g, 2, none⟩) l1).trans h2, (hb.cell (p := ⟨g, 3, none⟩) l1).trans h3, (hb.cell (p := ⟨b, 0, none⟩) l2).trans h4⟩
theorem Begun.set {w : World} {p g b c i : Nat} {v : Value} (h : Begun w p g b) (h1 : g ≠ c) (h2 : b ≠ c) : Begun (w.setCell ⟨c, i, none⟩ v) p g b :=
  ⟨set_far h.1 h1, set_far h.2.1 h1, set_far h.2.2.1 h1, set_far h.2.2.2.1 h1, set_far h.2.2.2.2 h2⟩

set_option maxRecDepth 100000 in
set_option maxHeartbeats 4000000 in
theorem newStanding_nil (lo p : Nat) (t : List C) (w : World) (hT : TreL lo w.heap.size w p t) (ht : trm t = true) (hwf : WfC t) :
    Calls Try.prog 118 #[.pointer none, .pointer (some ⟨p, 0, none⟩)] w fun e w' => ∃ g b, e = .returned (.agg #[.pointer none, .int .i64 1, .pointer (some ⟨g, 0, none⟩), .pointer (some ⟨b, 0, none⟩), .int .i64 ((freeOf t).length : Int), .pointer (some ⟨p, 0, none⟩), .int .i64 ((freeOf t).length : Int), .slice none 0 0]) ∧ Begun w' p g b ∧ w.heap.size < g ∧ w.heap.size < b ∧ Below w.heap.size w w' := by
  have HL := hide (listAt_of hT ht)
  have hl40 := (trm_len ht).2
  have HF := hide (fun (W : World) (lo hi : Nat) (ao : Option Addr) (cap : Nat) (h : SegC lo hi W (.slice ao t.length cap) t) => (show Calls Try.prog 155 #[.slice ao t.length cap] W _ from by
    obtain ⟨po, pc, e, hR⟩ := h.1.shape
    injection e with e1 _ e3
    subst e1 e3
    exact TrmFree_any ao cap t W (by omega) hR hwf))
  clear hT ht hwf
  go_enter Try.func118, Try.ntmps118
  go_wp2_with fail
  obtain ⟨W, hW⟩ : ∃ W, W = w.alloc (Obj.cells #[.pointer none, .int .i64 0, .pointer none, .pointer none, .int .i64 0, .pointer none, .int .i64 0, .slice none 0 0] 163) := ⟨_, rfl⟩
  have hB : Below w.heap.size w W := by rw [hW]; exact cell_below _ _
  have hl : w.heap.size < W.heap.size := by rw [hW]; simp
  have c0 : W.cell? ⟨w.heap.size, 0, none⟩ = some (.pointer none) := by rw [hW]; simp [go_sem]
  have f0 : W.frozen? ⟨w.heap.size, 0, none⟩ = false := by rw [hW]; simp [go_sem]
  have c1 : W.cell? ⟨w.heap.size, 1, none⟩ = some (.int .i64 0) := by rw [hW]; simp [go_sem]
  have f1 : W.frozen? ⟨w.heap.size, 1, none⟩ = false := by rw [hW]; simp [go_sem]
  have c2 : W.cell? ⟨w.heap.size, 2, none⟩ = some (.pointer none) := by rw [hW]; simp [go_sem]
  have f2 : W.frozen? ⟨w.heap.size, 2, none⟩ = false := by rw [hW]; simp [go_sem]
  have c3 : W.cell? ⟨w.heap.size, 3, none⟩ = some (.pointer none) := by rw [hW]; simp [go_sem]
  have f3 : W.frozen? ⟨w.heap.size, 3, none⟩ = false := by rw [hW]; simp [go_sem]
  have c4 : W.cell? ⟨w.heap.size, 4, none⟩ = some (.int .i64 0) := by rw [hW]; simp [go_sem]
  have f4 : W.frozen? ⟨w.heap.size, 4, none⟩ = false := by rw [hW]; simp [go_sem]
  have c5 : W.cell? ⟨w.heap.size, 5, none⟩ = some (.pointer none) := by rw [hW]; simp [go_sem]
  have f5 : W.frozen? ⟨w.heap.size, 5, none⟩ = false := by rw [hW]; simp [go_sem]
  have c6 : W.cell? ⟨w.heap.size, 6, none⟩ = some (.int .i64 0) := by rw [hW]; simp [go_sem]
  have f6 : W.frozen? ⟨w.heap.size, 6, none⟩ = false := by rw [hW]; simp [go_sem]
  have c7 : W.cell? ⟨w.heap.size, 7, none⟩ = some (.slice none 0 0) := by rw [hW]; simp [go_sem]
  have f7 : W.frozen? ⟨w.heap.size, 7, none⟩ = false := by rw [hW]; simp [go_sem]
  rw [← hW]
  clear hW
  have H := hide (unhide HL W hB)
  refine (unhide H).mono ?_
  rintro e w1 ⟨ao, cap, rfl, hS, hb⟩
  clear H HL
  replace c0 := (hb.cell (p := ⟨w.heap.size, 0, none⟩) hl).trans c0
  replace f0 := (hb.frozen (p := ⟨w.heap.size, 0, none⟩) hl).trans f0
  replace c1 := (hb.cell (p := ⟨w.heap.size, 1, none⟩) hl).trans c1
  replace f1 := (hb.frozen (p := ⟨w.heap.size, 1, none⟩) hl).trans f1
  replace c2 := (hb.cell (p := ⟨w.heap.size, 2, none⟩) hl).trans c2
  replace f2 := (hb.frozen (p := ⟨w.heap.size, 2, none⟩) hl).trans f2
  replace c3 := (hb.cell (p := ⟨w.heap.size, 3, none⟩) hl).trans c3
  replace f3 := (hb.frozen (p := ⟨w.heap.size, 3, none⟩) hl).trans f3
  replace c4 := (hb.cell (p := ⟨w.heap.size, 4, none⟩) hl).trans c4
  replace f4 := (hb.frozen (p := ⟨w.heap.size, 4, none⟩) hl).trans f4
  replace c5 := (hb.cell (p := ⟨w.heap.size, 5, none⟩) hl).trans c5
  replace f5 := (hb.frozen (p := ⟨w.heap.size, 5, none⟩) hl).trans f5
  replace c6 := (hb.cell (p := ⟨w.heap.size, 6, none⟩) hl).trans c6
  replace f6 := (hb.frozen (p := ⟨w.heap.size, 6, none⟩) hl).trans f6
  replace c7 := (hb.cell (p := ⟨w.heap.size, 7, none⟩) hl).trans c7
  replace f7 := (hb.frozen (p := ⟨w.heap.size, 7, none⟩) hl).trans f7
  replace hl := Nat.lt_of_lt_of_le hl hb.size
  replace hB := bstep hB hb
  have H := hide (unhide HF w1 _ _ _ _ hS)
  clear hb hS HF
  go_wp2_with fail
  refine (unhide H).mono ?_
  rintro e w2 ⟨v, rfl, hO, hb⟩
  obtain ⟨fo, fc, rfl, _⟩ := hO.shape
  clear hO H
  replace c0 := (hb.cell (p := ⟨w.heap.size, 0, none⟩) hl).trans c0
  replace f0 := (hb.frozen (p := ⟨w.heap.size, 0, none⟩) hl).trans f0
  replace c1 := (hb.cell (p := ⟨w.heap.size, 1, none⟩) hl).trans c1
  replace f1 := (hb.frozen (p := ⟨w.heap.size, 1, none⟩) hl).trans f1
  replace c2 := (hb.cell (p := ⟨w.heap.size, 2, none⟩) hl).trans c2
  replace f2 := (hb.frozen (p := ⟨w.heap.size, 2, none⟩) hl).trans f2
  replace c3 := (hb.cell (p := ⟨w.heap.size, 3, none⟩) hl).trans c3
  replace f3 := (hb.frozen (p := ⟨w.heap.size, 3, none⟩) hl).trans f3
  replace c4 := (hb.cell (p := ⟨w.heap.size, 4, none⟩) hl).trans c4
  replace f4 := (hb.frozen (p := ⟨w.heap.size, 4, none⟩) hl).trans f4
  replace c5 := (hb.cell (p := ⟨w.heap.size, 5, none⟩) hl).trans c5
  replace f5 := (hb.frozen (p := ⟨w.heap.size, 5, none⟩) hl).trans f5
  replace c6 := (hb.cell (p := ⟨w.heap.size, 6, none⟩) hl).trans c6
  replace f6 := (hb.frozen (p := ⟨w.heap.size, 6, none⟩) hl).trans f6
  replace c7 := (hb.cell (p := ⟨w.heap.size, 7, none⟩) hl).trans c7
  replace f7 := (hb.frozen (p := ⟨w.heap.size, 7, none⟩) hl).trans f7
  replace hl := Nat.lt_of_lt_of_le hl hb.size
  replace hB := bstep hB hb
  clear hb
  have H := hide (with_nil p w2)
  go_wp2_with fail
  refine (unhide H).mono ?_
  rintro e w3 ⟨rfl, rfl⟩
  have hb := cell_below w2 (.cells #[.iface 222 (.agg #[.pointer (some ⟨p, 0, none⟩)]), .int .i64 0, .int .i64 0, .pointer none] 254)
  obtain ⟨g0, g1, g2, g3⟩ := four_cells w2 (.iface 222 (.agg #[.pointer (some ⟨p, 0, none⟩)])) (.int .i64 0) (.int .i64 0) (.pointer none) 254
  have hg : w.heap.size < w2.heap.size := hl
  generalize hW3 : w2.alloc (.cells #[.iface 222 (.agg #[.pointer (some ⟨p, 0, none⟩)]), .int .i64 0, .int .i64 0, .pointer none] 254) = w3 at hb g0 g1 g2 g3 ⊢
  clear hW3 H
  replace c0 := (hb.cell (p := ⟨w.heap.size, 0, none⟩) hl).trans c0
  replace f0 := (hb.frozen (p := ⟨w.heap.size, 0, none⟩) hl).trans f0
  replace c1 := (hb.cell (p := ⟨w.heap.size, 1, none⟩) hl).trans c1
  replace f1 := (hb.frozen (p := ⟨w.heap.size, 1, none⟩) hl).trans f1
  replace c2 := (hb.cell (p := ⟨w.heap.size, 2, none⟩) hl).trans c2
  replace f2 := (hb.frozen (p := ⟨w.heap.size, 2, none⟩) hl).trans f2
  replace c3 := (hb.cell (p := ⟨w.heap.size, 3, none⟩) hl).trans c3
  replace f3 := (hb.frozen (p := ⟨w.heap.size, 3, none⟩) hl).trans f3
  replace c4 := (hb.cell (p := ⟨w.heap.size, 4, none⟩) hl).trans c4
  replace f4 := (hb.frozen (p := ⟨w.heap.size, 4, none⟩) hl).trans f4
  replace c5 := (hb.cell (p := ⟨w.heap.size, 5, none⟩) hl).trans c5
  replace f5 := (hb.frozen (p := ⟨w.heap.size, 5, none⟩) hl).trans f5
  replace c6 := (hb.cell (p := ⟨w.heap.size, 6, none⟩) hl).trans c6
  replace f6 := (hb.frozen (p := ⟨w.heap.size, 6, none⟩) hl).trans f6
  replace c7 := (hb.cell (p := ⟨w.heap.size, 7, none⟩) hl).trans c7
  replace f7 := (hb.frozen (p := ⟨w.heap.size, 7, none⟩) hl).trans f7
  replace hl := Nat.lt_of_lt_of_le hl hb.size
  replace hB := bstep hB hb
  have l3 := World.block_lt_of_cell? w3 ⟨_, _, none⟩ g0
  clear hb
  generalize w2.heap.size = G at g0 g1 g2 g3 l3 hg ⊢
  have H := hide (bindings_nil w3)
  go_wp2_with fail
  refine (unhide H).mono ?_
  rintro e w4 ⟨rfl, hc, hb⟩
  have hw3 : w.heap.size < w3.heap.size + 1 := by omega
  have hBg : Hid (Begun w4 p G (w3.heap.size + 1)) := ⟨(hb.cell (p := ⟨G, 0, none⟩) l3).trans g0, (hb.cell (p := ⟨G, 1, none⟩) l3).trans g1, (hb.cell (p := ⟨G, 2, none⟩) l3).trans g2, (hb.cell (p := ⟨G, 3, none⟩) l3).trans g3, hc⟩
  replace c0 := (hb.cell (p := ⟨w.heap.size, 0, none⟩) hl).trans c0
  replace f0 := (hb.frozen (p := ⟨w.heap.size, 0, none⟩) hl).trans f0
  replace c1 := (hb.cell (p := ⟨w.heap.size, 1, none⟩) hl).trans c1
  replace f1 := (hb.frozen (p := ⟨w.heap.size, 1, none⟩) hl).trans f1
  replace c2 := (hb.cell (p := ⟨w.heap.size, 2, none⟩) hl).trans c2
  replace f2 := (hb.frozen (p := ⟨w.heap.size, 2, none⟩) hl).trans f2
  replace c3 := (hb.cell (p := ⟨w.heap.size, 3, none⟩) hl).trans c3
  replace f3 := (hb.frozen (p := ⟨w.heap.size, 3, none⟩) hl).trans f3
  replace c4 := (hb.cell (p := ⟨w.heap.size, 4, none⟩) hl).trans c4
  replace f4 := (hb.frozen (p := ⟨w.heap.size, 4, none⟩) hl).trans f4
  replace c5 := (hb.cell (p := ⟨w.heap.size, 5, none⟩) hl).trans c5
  replace f5 := (hb.frozen (p := ⟨w.heap.size, 5, none⟩) hl).trans f5
  replace c6 := (hb.cell (p := ⟨w.heap.size, 6, none⟩) hl).trans c6
  replace f6 := (hb.frozen (p := ⟨w.heap.size, 6, none⟩) hl).trans f6
  replace c7 := (hb.cell (p := ⟨w.heap.size, 7, none⟩) hl).trans c7
  replace f7 := (hb.frozen (p := ⟨w.heap.size, 7, none⟩) hl).trans f7
  replace hl := Nat.lt_of_lt_of_le hl hb.size
  replace hB := bstep hB hb
  clear hb hc g0 g1 g2 g3 l3 H
  have hne1 : G ≠ w.heap.size := by omega
  have hne2 : w3.heap.size + 1 ≠ w.heap.size := by omega
  generalize w3.heap.size + 1 = Bp at hBg hw3 hne2 ⊢
  have HB := hide hB
  clear hB
  go_wp2
  exact bodyPost_ret (v := .agg #[.pointer none, .int .i64 1, .pointer (some ⟨G, 0, none⟩), .pointer (some ⟨Bp, 0, none⟩), .int .i64 ((freeOf t).length : Int), .pointer (some ⟨p, 0, none⟩), .int .i64 ((freeOf t).length : Int), .slice none 0 0]) (by simp [results, Try.results118, go_sem, *]) rfl ⟨G, Bp, rfl, (Begun.set (Begun.set (Begun.set (Begun.set (Begun.set (Begun.set (Begun.set (Begun.set (unhide hBg) hne1 hne2) hne1 hne2) hne1 hne2) hne1 hne2) hne1 hne2) hne1 hne2) hne1 hne2) hne1 hne2), hg, hw3, (Below.setCell (Below.setCell (Below.setCell (Below.setCell (Below.setCell (Below.setCell (Below.setCell (Below.setCell (unhide HB) (p := ⟨w.heap.size, 0, none⟩) (Nat.le_refl _) _) (p := ⟨w.heap.size, 1, none⟩) (Nat.le_refl _) _) (p := ⟨w.heap.size, 2, none⟩) (Nat.le_refl _) _) (p := ⟨w.heap.size, 3, none⟩) (Nat.le_refl _) _) (p := ⟨w.heap.size, 4, none⟩) (Nat.le_refl _) _) (p := ⟨w.heap.size, 5, none⟩) (Nat.le_refl _) _) (p := ⟨w.heap.size, 6, none⟩) (Nat.le_refl _) _) (p := ⟨w.heap.size, 7, none⟩) (Nat.le_refl _) _)⟩
end Go.Proofs.Ytkedckmpjedjoaa

/- Solving at its beginning: the program's. -/
namespace Go.Proofs.Ytkedckmpjedjoaa
open Go.RowKit Go.Shelf
set_option linter.unusedVariables false
set_option linter.unusedSimpArgs false

/-- Solving that begins: its box, its one goal, no bindings, no choice. -/
structure Solv (W : World) (S p g b : Nat) (n : Int) : Prop where
  box : W.heap[S]? = some (.cells #[.pointer none, .int .i64 1, .pointer (some ⟨g, 0, none⟩), .pointer (some ⟨b, 0, none⟩), .int .i64 n, .pointer (some ⟨p, 0, none⟩), .int .i64 n, .slice none 0 0, .pointer none] 167)
  bg : Begun W p g b
theorem Solv.below {W W' : World} {S p g b : Nat} {n : Int} (h : Solv W S p g b n) (hb : Below W.heap.size W W') : Solv W' S p g b n :=
  ⟨(hb.block S (Array.getElem?_eq_some_iff.1 h.box).1).trans h.box, h.bg.below hb⟩

set_option maxRecDepth 100000 in
set_option maxHeartbeats 2000000 in
theorem newSolving_nil (lo p : Nat) (t : List C) (w : World) (hT : TreL lo w.heap.size w p t) (ht : trm t = true) (hwf : WfC t) :
    Calls Try.prog 60 #[.pointer none, .pointer (some ⟨p, 0, none⟩)] w fun e w' => ∃ S g b, e = .returned (.pointer (some ⟨S, 0, none⟩)) ∧ Solv w' S p g b ((freeOf t).length : Int) ∧ Below w.heap.size w w' := by
  have H := hide (newStanding_nil lo p t w hT ht hwf)
  obtain ⟨n, hn⟩ : ∃ n : Int, n = ((freeOf t).length : Int) := ⟨_, rfl⟩
  rw [← hn] at H ⊢
  clear hT ht hwf hn
  go_enter Try.func60, Try.ntmps60
  go_wp2_with fail
  refine (unhide H).mono ?_
  rintro e w1 ⟨g, b, rfl, hG, _, _, hb⟩
  have FIN := hide (And.intro hG hb)
  clear hG hb H
  go_wp2
  go_ret
  exact ⟨w1.heap.size, g, b, rfl, ⟨World.alloc_heap_new _ _, (unhide FIN).1.below (cell_below _ _)⟩, bstep (unhide FIN).2 (cell_below _ _)⟩
end Go.Proofs.Ytkedckmpjedjoaa

/- Solving at its beginning: no choices told. -/
namespace Go.Proofs.Ytkedckmpjedjoaa
open Go.RowKit Go.Shelf
set_option linter.unusedVariables false
set_option linter.unusedSimpArgs false

theorem Try.infoCh : (Try.prog.info? 120).map (fun i => (i.zero, i.size, i.bytes)) = some (some (.agg #[.slice none 0 0, .slice none 0 0, .int .i64 0, .slice none 0 0, .int .i64 0]), 5, 88) := by kernel_rfl
set_option maxRecDepth 100000 in
set_option maxHeartbeats 1000000 in
theorem choices_nil (w : World) : Calls Try.prog 120 #[.pointer none] w fun e w' => e = .returned (.slice (some ⟨w.heap.size, 0, none⟩) 0 0) ∧ Below w.heap.size w w' := by
  obtain ⟨i0, hi, hz0, hz1, hz2⟩ := info_parts Try.infoCh
  have H := hide (size_nil w)
  go_enter Try.func120, Try.ntmps120
  go_wp2_with fail
  refine (unhide H).mono ?_
  rintro e w1 ⟨rfl, rfl⟩
  clear H
  go_wp2_with (at_make; refine wpList_make_full _ rfl _ _ 40 rfl w1.heap.size 120 i0 _ 5 Try.underlying40 hi hz0 hz1 .i64 .i64 _ _ 0 rfl rfl rfl rfl (by simp) (by unfold maxLen; omega) (Nat.le_refl _) ?_; intro w0 hown0 hgr0)
  have hB0 : Below w1.heap.size w1 w0 := (Below.refl _ _).grown hgr0 (Nat.le_refl _) (fun k e => by cases e)
  refine wp_loop_rounds 1 ?_
  rw [rounds_succ]
  go_wp2
  go_ret
  exact ⟨rfl, hB0⟩
end Go.Proofs.Ytkedckmpjedjoaa

/- Solving at its beginning: its one goal told. -/
namespace Go.Proofs.Ytkedckmpjedjoaa
open Go.RowKit Go.Shelf
set_option linter.unusedVariables false
set_option linter.unusedSimpArgs false
attribute [-go_sem] Go.Builtin.append_

theorem Try.infoSg : (Try.prog.info? 95).map (fun i => (i.zero, i.size, i.bytes)) = some (some (.agg #[.int .i64 0, .slice none 0 0, .slice none 0 0, .slice none 0 0, .int .i64 0]), 5, 88) := by kernel_rfl
/-- The one goal: a call of the question, with no choices behind its cut. -/
def ESg (t : List C) (i l r : Nat) (W : World) (us : List Value) : Prop := ∃ v0 v1 v2 v3, us = [v0, v1, v2, v3, .int .i64 0] ∧ SegG l r W ⟨1, t, [], []⟩ v0 v1 v2 v3
theorem esg_keeps (t : List C) : Keeps (ESg t) := fun i l r w w' us ⟨v0, v1, v2, v3, e, h⟩ hk => ⟨v0, v1, v2, v3, e, h.kept hk⟩
def OneG (w : World) (t : List C) (e : Ending) (w' : World) : Prop := ∃ g cap, e = .returned (.slice (some ⟨g, 0, none⟩) 1 cap) ∧ SegL w.heap.size w'.heap.size w' 95 5 (.slice (some ⟨g, 0, none⟩) 1 cap) 1 (ESg t) ∧ Below w.heap.size w w'

theorem one_of5 {u u0 u1 u2 u3 : Value} (ho : u0.oneCell' = true ∧ u1.oneCell' = true ∧ u2.oneCell' = true ∧ u3.oneCell' = true) (h : u = u0 ∨ u = u1 ∨ u = u2 ∨ u = u3 ∨ u = .int .i64 0) : u.oneCell' = true := by
  rcases h with h | h | h | h | h
  · rw [h]; exact ho.1
  · rw [h]; exact ho.2.1
  · rw [h]; exact ho.2.2.1
  · rw [h]; exact ho.2.2.2
  · rw [h]; rfl
theorem one_push {w w2 : World} {t : List C} {u0 u1 u2 u3 : Value} (hS : SegG w.heap.size w2.heap.size w2 ⟨1, t, [], []⟩ u0 u1 u2 u3) (hb : Below w.heap.size w w2) (ho : u0.oneCell' = true ∧ u1.oneCell' = true ∧ u2.oneCell' = true ∧ u3.oneCell' = true) :
    ∃ g cap w3, (Builtin.append_ #[38, 38] 38 #[.slice none 0 0, .slice (some ⟨w2.heap.size, 0, none⟩) 1 1]).run Try.prog (w2.alloc (.cells #[u0, u1, u2, u3, .int .i64 0] 95)) = .ok (.slice (some ⟨g, 0, none⟩) 1 cap) w3 ∧
      SegL w.heap.size w3.heap.size w3 95 5 (.slice (some ⟨g, 0, none⟩) 1 cap) 1 (ESg t) ∧ Below w.heap.size w w3 := by
  have hs2 := hb.size
  obtain ⟨g, cap, w3, hr, hseg, hgrow, hv⟩ := SegL.push (esg_keeps t) (SegL.empty w.heap.size w.heap.size w 95 5 (ESg t)) (Nat.le_refl _) hb (Nat.le_refl _) hs2 (Nat.le_refl _) (us := [u0, u1, u2, u3, .int .i64 0]) ⟨u0, u1, u2, u3, rfl, hS⟩ rfl (fun u hu => one_of5 ho (by simpa using hu))
    Try.underlying38 (info_parts Try.infoSg).choose_spec.1 (info_parts Try.infoSg).choose_spec.2.1 (info_parts Try.infoSg).choose_spec.2.2.1 (info_parts Try.infoSg).choose_spec.2.2.2 rfl (by decide) (by decide) (by omega)
  exact ⟨g, cap, w3, hr, hseg, (hb.alloc hs2 _).grown hgrow (by simp; omega) (fun j e => by simp [Value.ownBlock] at e)⟩

set_option maxRecDepth 100000 in
set_option maxHeartbeats 4000000 in
theorem pendingTell_one (p g b : Nat) (t : List C) (w : World) (hG : Begun w p g b) (HL : ListAt w p t) :
    Calls Try.prog 158 #[.pointer (some ⟨g, 0, none⟩)] w (OneG w t) := by
  obtain ⟨g0, g1, g2, g3, _⟩ := hG
  have hdr : Below w.heap.size w w.drew := (Below.refl w.heap.size w).drew
  have HC := hide (tellGoal_call p t w.drew (fun W hW => HL W (bstep hdr hW)))
  have hl := World.block_lt_of_cell? w ⟨_, _, none⟩ g0
  simp only [ptrV, Option.map] at HC
  clear HL g2
  go_enter Try.func158, Try.ntmps158
  go_wp2
  refine wp_loop_rounds 2 ?_
  rw [rounds_succ]
  go_wp2
  go_region_with (go_at_call 149; refine (unhide HC).mono ?_; rintro e w2 ⟨u0, u1, u2, u3, rfl, hS, hb2⟩; have hb20 : Below w.heap.size w w2 := bstep hdr hb2; obtain ⟨g', cap', w3, hr, hseg, hbw⟩ := one_push (w := w) hS hb20 hS.one; obtain ⟨e0, ⟨b1, q1, e1⟩, ⟨b2, q2, e2⟩, ⟨b3, q3, e3⟩⟩ := hS.shapes; dsimp only [List.length_nil] at e0 e1 e2 e3; subst e0 e1 e2 e3; have v1 := (hb20.cell (p := ⟨g, 1, none⟩) hl).trans g1; have v3 := (hbw.cell (p := ⟨g, 3, none⟩) hl).trans g3; have HST := hide (And.intro hseg hbw); clear hS hseg hbw hb2)
  all_goals go_wp2
  all_goals rw [rounds_succ]
  all_goals go_wp2
  all_goals go_ret
  all_goals exact ⟨g', cap', rfl, unhide HST⟩
end Go.Proofs.Ytkedckmpjedjoaa
